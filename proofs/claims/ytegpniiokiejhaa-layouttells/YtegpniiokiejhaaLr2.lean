/- What the reference's layout calls answer: LayoutNode, LayoutPiece, LayoutBlock. -/
import Derived.Test.YtegpniiokiejhaaLr
namespace Go.Proofs.Ytegpniiokiejhaa
open Go.ChangeShapes Go.WideShapes Go.ChangeAt Go.RowKit Go.Shelf
theorem lcs_no {e : Int} {b : Bool} (h : e ≠ 0) : lcs e b = e := by unfold lcs; rw [if_neg h]
theorem lcs_f : lcs 0 false = 3 := rfl
theorem lcs_t : lcs 0 true = 0 := rfl
set_option maxHeartbeats 1000000 in
theorem refNode_any (N D M T s p : Int) (w : World) :
    Calls Try.prog 13 #[lay N D M T, .int .i64 s, .int .i64 p] w fun e w' => e = .returned (.tuple #[.int .i64 (ndV N D M T s p), .int .i64 (ndE N D M T s p)]) ∧ Below w.heap.size w w' := by
  have HZ := hid_of (@lck_zero N D M T)
  have HV : Hid (ndV N D M T s p = if ndE N D M T s p = 0 then (T + s + p) % N else 0) := rfl
  have HE : Hid (ndE N D M T s p = lcs (lck N D M T) (blw s 64 && blw p (D + M))) := rfl
  generalize ndV N D M T s p = v at HV ⊢
  generalize ndE N D M T s p = x at HV HE ⊢
  have HN : Hid (lay N D M T = .agg #[.int .i64 N, .int .i64 D, .int .i64 M, .int .i64 T]) := rfl
  have X0 := hid_of (show Bx _ _ _ _ _ _ from heap_new w (.cells #[.int .i64 N, .int .i64 D, .int .i64 M, .int .i64 T] 23))
  have B0 := hid_of (below_new w (.cells #[.int .i64 N, .int .i64 D, .int .i64 M, .int .i64 T] 23))
  rw [HN.out]
  go_enter Try.func13, Try.ntmps13
  go_wp2_with fail
  generalize w.alloc (.cells #[.int .i64 N, .int .i64 D, .int .i64 M, .int .i64 T] 23) = W at *
  refine (refCheck_any N D M T _).mono ?_
  rintro e w1 ⟨rfl, h1⟩
  have B1 := hid_of (B0.out.trans (h1.mono B0.out.size))
  have X1 := hid_of (X0.out.below h1)
  obtain ⟨k0, k1, k2, k3⟩ := X1.out.cells
  clear h1 B0 X0
  generalize lck N D M T = l at HZ HE ⊢
  by_cases c0 : l = 0
  · obtain ⟨n1, n2, d1, d2, m1, m2, hf, t1, t2⟩ := HZ.out c0
    subst c0
    by_cases a0 : s < 0
    · rw [blw_n (.inl a0), Bool.false_and] at HE
      have hx : x = 3 := HE.out
      subst hx
      rw [if_neg (by omega)] at HV
      have hv := HV.out
      subst hv
      go_wp2_with fail
      go_ret2
      exact ⟨rfl, B1.out⟩
    by_cases a1 : 63 < s
    · rw [blw_n (.inr (by omega)), Bool.false_and] at HE
      have hx : x = 3 := HE.out
      subst hx
      rw [if_neg (by omega)] at HV
      have hv := HV.out
      subst hv
      go_wp2_with fail
      go_ret2
      exact ⟨rfl, B1.out⟩
    by_cases a2 : p < 0
    · rw [blw_n (n := p) (.inl a2), Bool.and_false] at HE
      have hx : x = 3 := HE.out
      subst hx
      rw [if_neg (by omega)] at HV
      have hv := HV.out
      subst hv
      go_wp2_with fail
      go_ret2
      exact ⟨rfl, B1.out⟩
    by_cases a3 : D + M ≤ p
    · rw [blw_n (n := p) (.inr a3), Bool.and_false] at HE
      have hx : x = 3 := HE.out
      subst hx
      rw [if_neg (by omega)] at HV
      have hv := HV.out
      subst hv
      go_wp2_with fail
      go_ret2
      exact ⟨rfl, B1.out⟩
    rw [blw_i ⟨by omega, by omega⟩, blw_i ⟨by omega, by omega⟩] at HE
    have hx : x = 0 := HE.out
    subst hx
    rw [if_pos rfl] at HV
    go_wp2_with fail
    refine (refNode_ndo N D M T s p _ n1 n2 t1 t2 (by omega) (by omega) (by omega) (by omega)).mono ?_
    rintro e w2 ⟨rfl, h2⟩
    rw [show ndo N T s p = v from HV.out.symm]
    go_wp2_with fail
    go_ret2
    exact ⟨rfl, B1.out.trans (h2.mono B1.out.size)⟩
  · have tx : (l == 0) = false := beq_eq_false_iff_ne.2 c0
    have ty : (l != 0) = true := by rw [bne_iff_ne]; exact c0
    rw [lcs_no c0] at HE
    have hx := HE.out
    subst hx
    rw [if_neg c0] at HV
    have hv := HV.out
    subst hv
    go_wp2_with fail
    go_ret2
    exact ⟨rfl, B1.out⟩
theorem pcP_of {N D M T s n : Int} (hL : Lok N D M T) (h1 : 0 ≤ n) (h2 : n < N) {k : Int} (k1 : 0 ≤ k) (k2 : k < D + M) : ndo N T s k = n ↔ pcP N T s n = k := by
  have hn := hL.n1
  have hf := hL.few
  constructor
  · intro h
    unfold pcP
    unfold ndo at h ⊢
    rw [← h, Int.add_emod_right, ← Int.sub_emod, show T + s + k - (T + s + 0) = k by omega]
    exact Int.emod_eq_of_lt k1 (by omega)
  · intro h
    unfold pcP at h
    unfold ndo at h ⊢
    rw [← h, Int.add_emod, Int.emod_emod_of_dvd _ (Int.dvd_refl N), ← Int.add_emod, show T + s + (n - (T + s + 0) % N + N) = (T + s + n) - (T + s + 0) % N + N by omega, Int.add_emod_right, Int.sub_emod, Int.emod_emod_of_dvd _ (Int.dvd_refl N), ← Int.sub_emod, show T + s + n - (T + s + 0) = n by omega]
    exact Int.emod_eq_of_lt h1 h2
set_option maxHeartbeats 2000000 in
theorem refPiece_any (N D M T s n : Int) (w : World) :
    Calls Try.prog 14 #[lay N D M T, .int .i64 s, .int .i64 n] w fun e w' => e = .returned (.tuple #[.int .i64 (pcV N D M T s n), .bool (pcB N D M T s n), .int .i64 (pcE N D M T s n)]) ∧ Below w.heap.size w w' := by
  have HZ := hid_of (@lck_zero N D M T)
  have HPO := hid_of (@pcP_of N D M T s n)
  have HP0 : Hid (1 ≤ N → 0 ≤ pcP N T s n) := hid_of fun h => Int.emod_nonneg _ (by omega)
  have HV : Hid (pcV N D M T s n = if pcB N D M T s n = true then pcP N T s n else 0) := rfl
  have HB' : Hid (pcB N D M T s n = (decide (pcE N D M T s n = 0) && decide (pcP N T s n < D + M))) := rfl
  have HE : Hid (pcE N D M T s n = lcs (lck N D M T) (blw s 64 && blw n N)) := rfl
  generalize pcV N D M T s n = v at HV ⊢
  generalize pcB N D M T s n = b at HV HB' ⊢
  generalize pcE N D M T s n = x at HB' HE ⊢
  generalize pcP N T s n = y at HB' HV HPO HP0
  have HN : Hid (lay N D M T = .agg #[.int .i64 N, .int .i64 D, .int .i64 M, .int .i64 T]) := rfl
  have X0 := hid_of (show Bx _ _ _ _ _ _ from heap_new w (.cells #[.int .i64 N, .int .i64 D, .int .i64 M, .int .i64 T] 23))
  have B0 := hid_of (below_new w (.cells #[.int .i64 N, .int .i64 D, .int .i64 M, .int .i64 T] 23))
  rw [HN.out]
  go_enter Try.func14, Try.ntmps14
  go_wp2_with fail
  generalize w.alloc (.cells #[.int .i64 N, .int .i64 D, .int .i64 M, .int .i64 T] 23) = W at *
  refine (refCheck_any N D M T _).mono ?_
  rintro e w1 ⟨rfl, h1⟩
  have B1 := hid_of (B0.out.trans (h1.mono B0.out.size))
  have X1 := hid_of (X0.out.below h1)
  obtain ⟨k0, k1, k2, k3⟩ := X1.out.cells
  clear h1 B0 X0
  generalize lck N D M T = l at HZ HE ⊢
  by_cases c0 : l = 0
  · have hLok := HZ.out c0
    have HLk := hid_of hLok
    obtain ⟨n1, n2, d1, d2, m1, m2, hf, t1, t2⟩ := hLok
    subst c0
    by_cases a0 : s < 0
    · rw [blw_n (.inl a0), Bool.false_and] at HE
      have hx : x = 3 := HE.out
      subst hx
      have hb : b = false := by rw [HB'.out]; rfl
      subst hb
      have hv : v = 0 := by rw [HV.out]; rfl
      subst hv
      go_wp2_with fail
      go_ret3
      exact ⟨rfl, B1.out⟩
    by_cases a1 : 63 < s
    · rw [blw_n (.inr (by omega)), Bool.false_and] at HE
      have hx : x = 3 := HE.out
      subst hx
      have hb : b = false := by rw [HB'.out]; rfl
      subst hb
      have hv : v = 0 := by rw [HV.out]; rfl
      subst hv
      go_wp2_with fail
      go_ret3
      exact ⟨rfl, B1.out⟩
    by_cases a2 : n < 0
    · rw [blw_n (n := n) (.inl a2), Bool.and_false] at HE
      have hx : x = 3 := HE.out
      subst hx
      have hb : b = false := by rw [HB'.out]; rfl
      subst hb
      have hv : v = 0 := by rw [HV.out]; rfl
      subst hv
      go_wp2_with fail
      go_ret3
      exact ⟨rfl, B1.out⟩
    by_cases a3 : N ≤ n
    · rw [blw_n (n := n) (.inr a3), Bool.and_false] at HE
      have hx : x = 3 := HE.out
      subst hx
      have hb : b = false := by rw [HB'.out]; rfl
      subst hb
      have hv : v = 0 := by rw [HV.out]; rfl
      subst hv
      go_wp2_with fail
      go_ret3
      exact ⟨rfl, B1.out⟩
    rw [blw_i ⟨by omega, by omega⟩, blw_i ⟨by omega, by omega⟩] at HE
    have hx : x = 0 := HE.out
    subst hx
    have HPO2 := hid_of (fun (k : Nat) (hk : (k : Int) < D + M) => HPO.out HLk.out (by omega) (by omega) (k := k) (by omega) hk)
    obtain ⟨P, hP⟩ : ∃ P : Nat, D + M = (P : Int) := ⟨(D + M).toNat, by omega⟩
    have HPP := hid_of hP
    have hP2 : P ≤ 14 := by omega
    rw [show decide ((0 : Int) = 0) = true from rfl, Bool.true_and] at HB'
    have H0 := hid_of (HP0.out n1)
    clear hP HPO HP0 HE HZ
    go_wp2_with fail
    clear k0 k1 k2 k3
    go_loopw [10] (fun i w' => ∃ k : Nat, k ≤ P ∧ i = .int .i64 k ∧ Hid (∀ i : Nat, i < k → y ≠ i) ∧ Hid (Below w1.heap.size w1 w')) (fun i _ => P - (intOf i).toNat)
    case atStart => exact ⟨0, by omega, rfl, (fun i hi => by omega), Below.refl _ _⟩
    case round =>
      obtain ⟨k, hk, rfl, HNo, HW⟩ := hrel
      obtain ⟨k0, k1, k2, k3⟩ := (X1.out.below HW.out).cells
      have hpp := HPP.out
      by_cases hlt : k < P
      · have tl : (k : Int) < D + M := by omega
        have HI := hid_of (HPO2.out k tl)
        clear hpp
        go_wp2_with fail
        refine (refNode_ndo N D M T s k _ n1 n2 t1 t2 (by omega) (by omega) (by omega) (by omega)).mono ?_
        rintro e w2 ⟨rfl, h2⟩
        have HW2 := hid_of (HW.out.trans (h2.mono HW.out.size))
        clear h2 HW
        by_cases c : ndo N T s k = n
        · have hy := HI.out.1 c
          have tc : (ndo N T s k == n) = true := by rw [c]; simp
          have hb : b = true := by rw [HB'.out, hy]; exact decide_eq_true tl
          subst hb
          have hv : v = k := by rw [HV.out, hy]; rfl
          subst hv
          generalize ndo N T s k = z at *
          clear c HI
          go_wp2_with fail
          go_ret3
          exact ⟨rfl, B1.out.trans (HW2.out.mono B1.out.size)⟩
        · have tc : (ndo N T s k == n) = false := beq_eq_false_iff_ne.2 c
          have HNo2 : Hid (∀ i : Nat, i < k + 1 → y ≠ i) := hid_of fun i hi => by
            by_cases e : i = k
            · subst e; exact fun h => c (HI.out.2 h)
            · exact HNo.out i (by omega)
          generalize ndo N T s k = z at *
          clear c HI
          go_wp2_with fail
          go_roundw
          case rel => exact ⟨k + 1, by omega, by go_num, HNo2, HW2⟩
          case measure => simp [intOf]; omega
      · have tl : ¬ (k : Int) < D + M := by omega
        have hy : ¬ y < D + M := by
          intro h
          have h0 := H0.out
          exact HNo.out y.toNat (by omega) (by omega)
        have hb : b = false := by rw [HB'.out]; exact decide_eq_false hy
        subst hb
        have hv : v = 0 := by rw [HV.out]; rfl
        subst hv
        clear hpp hy
        go_wp2_with fail
        go_ret3
        exact ⟨rfl, B1.out.trans (HW.out.mono B1.out.size)⟩
  · have tx : (l == 0) = false := beq_eq_false_iff_ne.2 c0
    have ty : (l != 0) = true := by rw [bne_iff_ne]; exact c0
    rw [lcs_no c0] at HE
    have hx := HE.out
    subst hx
    have hb : b = false := by rw [HB'.out, decide_eq_false c0]; rfl
    subst hb
    have hv : v = 0 := by rw [HV.out]; rfl
    subst hv
    go_wp2_with fail
    go_ret3
    exact ⟨rfl, B1.out⟩
end Go.Proofs.Ytegpniiokiejhaa
