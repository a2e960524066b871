/- What the reference's LayoutLoad answers. -/
import Derived.Test.YtegpniiokiejhaaLr3
namespace Go.Proofs.Ytegpniiokiejhaa
open Go.ChangeShapes Go.WideShapes Go.ChangeAt Go.RowKit Go.Shelf
/-- the first k nodes' numbers -/
def cpL (N D M T : Int) (S k : Nat) : List Int := (List.range k).map fun j => ((cp N D M T j S : Nat) : Int)
theorem cpL_len (N D M T : Int) (S k : Nat) : (cpL N D M T S k).length = k := by simp [cpL]
theorem cpL_snoc (N D M T : Int) (S k : Nat) : cpL N D M T S (k + 1) = cpL N D M T S k ++ [((cp N D M T k S : Nat) : Int)] := map_snoc _ k
theorem cpL_all {N D M T : Int} (hL : Lok N D M T) {S n : Nat} (hn : N = n) (hS : S ≤ 64) : cpL N D M T S n = (List.range n).map fun j => ((c2 N T (D + M).toNat S j : Nat) : Int) := by
  unfold cpL
  refine List.map_congr_left fun j hj => ?_
  rw [cp_c2 hL (by have := List.mem_range.1 hj; omega) hS]
set_option maxRecDepth 100000 in
set_option maxHeartbeats 2000000 in
theorem refLoad_any (N D M T s : Int) (w : World) :
    Calls Try.prog 16 #[lay N D M T, .int .i64 s] w fun e w' => ∃ v, e = .returned (.tuple #[v, .int .i64 (ldE N D M T s)]) ∧ Is w'.heap.size w' v (ldL N D M T s) ∧ Below w.heap.size w w' := by
  obtain ⟨i0, hi, hz0, hz1, hz2⟩ := info_parts info3
  have HZ := hid_of (@lck_zero N D M T)
  have HL : Hid (ldL N D M T s = if ldE N D M T s = 0 then (List.range N.toNat).map fun j => ((c2 N T (D + M).toNat s.toNat j : Nat) : Int) else []) := rfl
  have HE : Hid (ldE N D M T s = lcs (lck N D M T) (blw s 65)) := rfl
  generalize ldL N D M T s = u at HL ⊢
  generalize ldE N D M T s = x at HL HE ⊢
  have HN : Hid (lay N D M T = .agg #[.int .i64 N, .int .i64 D, .int .i64 M, .int .i64 T]) := rfl
  have X0 := hid_of (show Bx _ _ _ _ _ _ from heap_new w (.cells #[.int .i64 N, .int .i64 D, .int .i64 M, .int .i64 T] 23))
  have B0 := hid_of (below_new w (.cells #[.int .i64 N, .int .i64 D, .int .i64 M, .int .i64 T] 23))
  rw [HN.out]
  go_enter Try.func16, Try.ntmps16
  go_wp2_with fail
  generalize w.alloc (.cells #[.int .i64 N, .int .i64 D, .int .i64 M, .int .i64 T] 23) = W at *
  refine (refCheck_any N D M T _).mono ?_
  rintro e w1 ⟨rfl, h1⟩
  have B1 := hid_of (B0.out.trans (h1.mono B0.out.size))
  have X1 := hid_of (X0.out.below h1)
  obtain ⟨k0, k1, k2, k3⟩ := X1.out.cells
  clear h1 B0 X0
  generalize lck N D M T = l at HZ HE ⊢
  by_cases c0 : l = 0
  · have HLk := hid_of (HZ.out c0)
    obtain ⟨n1, n2, d1, d2, m1, m2, hf, t1, t2⟩ := HLk.out
    subst c0
    by_cases a0 : s < 0
    · rw [blw_n (.inl a0)] at HE
      have hx : x = 3 := HE.out
      subst hx
      rw [if_neg (by omega)] at HL
      have hu := HL.out
      subst hu
      go_wp2_with fail
      go_ret2
      exact ⟨_, rfl, Is.nil _ _, B1.out⟩
    by_cases a1 : 64 < s
    · rw [blw_n (.inr (by omega))] at HE
      have hx : x = 3 := HE.out
      subst hx
      rw [if_neg (by omega)] at HL
      have hu := HL.out
      subst hu
      go_wp2_with fail
      go_ret2
      exact ⟨_, rfl, Is.nil _ _, B1.out⟩
    rw [blw_i ⟨by omega, by omega⟩] at HE
    have hx : x = 0 := HE.out
    subst hx
    rw [if_pos rfl] at HL
    obtain ⟨n, hn⟩ := Int.eq_ofNat_of_zero_le (show 0 ≤ N by omega)
    obtain ⟨S, rfl⟩ := Int.eq_ofNat_of_zero_le (show 0 ≤ s by omega)
    have hu : u = cpL N D M T S n := by
      rw [HL.out, cpL_all HLk.out hn (by omega), show N.toNat = n by omega, Int.toNat_natCast]
    subst hu
    have HNn := hid_of hn
    have hn12 : n ≤ 12 := by omega
    have hS64 : S ≤ 64 := by omega
    clear hn HL HE HZ
    go_wp2_with fail
    clear k0 k1 k2 k3
    go_loopw [7, 8] (fun v i w' => ∃ k : Nat, k ≤ n ∧ i = .int .i64 k ∧ Hid (OwI w1.heap.size w' v (cpL N D M T S k)) ∧ Hid (Below w1.heap.size w1 w')) (fun _ i _ => n - (intOf i).toNat)
    case atStart => exact ⟨0, by omega, rfl, owi_nil _ _, Below.refl _ _⟩
    case round =>
      obtain ⟨k, hk, rfl, HO, HW⟩ := hrel
      obtain ⟨va, vc, hvs⟩ := HO.out.shape
      rw [cpL_len] at hvs
      subst hvs
      have hnn := HNn.out
      obtain ⟨k0, k1, k2, k3⟩ := (X1.out.below HW.out).cells
      by_cases hlt : k < n
      · have tl : (k : Int) < N := by omega
        clear hnn
        go_wp2_with fail
        clear k0 k1 k2 k3
        go_loopw [9, 10] (fun c i w' => ∃ q : Nat, q ≤ S ∧ c = .int .i64 (cp N D M T k q : Nat) ∧ i = .int .i64 q ∧ Hid (OwI w1.heap.size w' (.slice va k vc) (cpL N D M T S k)) ∧ Hid (Below w1.heap.size w1 w')) (fun _ i _ => S - (intOf i).toNat)
        case atStart => exact ⟨0, by omega, rfl, rfl, HO, HW⟩
        case round =>
          obtain ⟨q, hq, rfl, rfl, HO, HW⟩ := hrel
          by_cases hql : q < S
          · obtain ⟨k0, k1, k2, k3⟩ := (X1.out.below HW.out).cells
            have tq : (q : Int) < (S : Int) := by omega
            have hcp := cp_le N D M T k q
            have HCS : Hid (cp N D M T k (q + 1) = cp N D M T k q + if pcB N D M T q k = true then 1 else 0) := rfl
            go_wp2_with fail
            refine (refPiece_any N D M T q k _).mono ?_
            rintro e w2 ⟨rfl, h2⟩
            have HO2 := hid_of (HO.out.below h2 (Nat.le_refl _))
            have HW2 := hid_of (HW.out.trans (h2.mono HW.out.size))
            clear h2 HO HW k0 k1 k2 k3
            generalize pcV N D M T q k = pv
            generalize pcE N D M T q k = pe
            cases hb : pcB N D M T q k
            · rw [hb] at HCS
              clear hb
              go_wp2_with fail
              go_roundw
              case rel => exact ⟨q + 1, by omega, by rw [HCS.out]; rfl, by go_num, HO2, HW2⟩
              case measure => simp [intOf]; omega
            · rw [hb] at HCS
              clear hb
              go_wp2_with fail
              go_roundw
              case rel => exact ⟨q + 1, by omega, by rw [HCS.out]; rfl, by go_num, HO2, HW2⟩
              case measure => simp [intOf]; omega
          · have tq : ¬ (q : Int) < (S : Int) := by omega
            have hqe : q = S := by omega
            subst hqe
            have HSn := hid_of (cpL_snoc N D M T q k)
            have HOA := hid_of (HO.out.below (below_new wr (.cells #[.int .i64 ((cp N D M T k q : Nat) : Int)] 3)) (Nat.le_refl _))
            have HBA := hid_of (HW.out.trans ((below_new wr (.cells #[.int .i64 ((cp N D M T k q : Nat) : Int)] 3)).mono HW.out.size))
            have hsz := HW.out.size
            have hLl := cpL_len N D M T q k
            generalize cp N D M T k q = c9 at *
            have hOw : World.ownsRow (wr.alloc (.cells #[.int .i64 (c9 : Int)] 3)) w1.heap.size 3 1 (.slice va k vc) k (cellsZ (cpL N D M T q k)) := by have h := HOA.out.1; rw [hLl] at h; exact h
            have HOw := hid_of hOw
            have HLl := hid_of hLl
            clear hOw hLl
            go_wp2_with (at_builtin; refine wpList_append_own _ rfl _ _ 31 rfl w1.heap.size 3 i0 (.int .i64 0) 1 8 und31 hi hz0 hz1 hz2 rfl (by decide) _ k (cellsZ (cpL N D M T q k)) rfl HOw.out ⟨wr.heap.size, 0, none⟩ 1 1 [.int .i64 (c9 : Int)] rfl rfl (fun j u hj => by exact news_int wr _ j u hj) (by simp [Value.oneCell']) (by unfold maxLen; omega) (by omega) (by simp; omega) ?_; intro v' w3 hown hgrow hnil)
            go_roundw
            case rel =>
              refine ⟨k + 1, by omega, by go_num, ?_, HBA.out.grown hgrow (by simp; omega) HOA.out.block_le⟩
              rw [HSn.out]
              exact owi_snoc (by rw [HLl.out]; omega) (by rw [HLl.out]; exact hown)
            case measure => simp [intOf]; omega
      · have tl : ¬ (k : Int) < N := by omega
        have hke : k = n := by omega
        subst hke
        clear hnn
        go_wp2_with fail
        go_ret2
        exact ⟨_, rfl, HO.out.is, B1.out.trans (HW.out.mono B1.out.size)⟩
  · have tx : (l == 0) = false := beq_eq_false_iff_ne.2 c0
    have ty : (l != 0) = true := by rw [bne_iff_ne]; exact c0
    rw [lcs_no c0] at HE
    have hx := HE.out
    subst hx
    rw [if_neg c0] at HL
    have hu := HL.out
    subst hu
    go_wp2_with fail
    go_ret2
    exact ⟨_, rfl, Is.nil _ _, B1.out⟩
end Go.Proofs.Ytegpniiokiejhaa
