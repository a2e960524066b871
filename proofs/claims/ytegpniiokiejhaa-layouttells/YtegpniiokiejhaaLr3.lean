/- What the reference's LayoutBlock and LayoutLoad answer. -/
import Derived.Test.YtegpniiokiejhaaLr2
import Derived.Test.YtegpniiokiejhaaOi
import Derived.Test.YtegpniiokiejhaaEv
import Derived.Deep.AppendSrc
namespace Go.Proofs.Ytegpniiokiejhaa
open Go.ChangeShapes Go.WideShapes Go.ChangeAt Go.RowKit Go.Shelf
theorem div_at {D n r : Int} {k : Nat} (d1 : 1 ≤ D) (h : r + (k : Int) * D = n) (r1 : 0 ≤ r) (r2 : r < D) : n / D = k ∧ n % D = r := by
  subst h
  constructor
  · rw [Int.add_mul_ediv_right _ _ (by omega), Int.ediv_eq_zero_of_lt r1 r2, Int.zero_add]
  · rw [Int.add_mul_emod_self_right]
    exact Int.emod_eq_of_lt r1 r2
theorem div_le {D n r : Int} {k : Nat} (d1 : 1 ≤ D) (h : r + (k : Int) * D = n) (r1 : 0 ≤ r) : (k : Int) ≤ n := by
  have : (k : Int) * 1 ≤ (k : Int) * D := Int.mul_le_mul_of_nonneg_left d1 (by omega)
  omega
theorem div_step {D n r : Int} {k : Nat} (h : r + (k : Int) * D = n) : (r - D) + ((k + 1 : Nat) : Int) * D = n := by
  push_cast
  rw [Int.add_mul]
  omega
set_option maxHeartbeats 1000000 in
theorem refBlock_any (N D M T n : Int) (w : World) :
    Calls Try.prog 15 #[lay N D M T, .int .i64 n] w fun e w' => e = .returned (.tuple #[.int .i64 (bkS N D M T n), .int .i64 (bkP N D M T n), .int .i64 (bkE N D M T n)]) ∧ Below w.heap.size w w' := by
  have HZ := hid_of (@lck_zero N D M T)
  have HS : Hid (bkS N D M T n = if bkE N D M T n = 0 then n / D else 0) := rfl
  have HP : Hid (bkP N D M T n = if bkE N D M T n = 0 then n % D else 0) := rfl
  have HE : Hid (bkE N D M T n = lcs (lck N D M T) (blw n (64 * D))) := rfl
  generalize bkS N D M T n = u at HS ⊢
  generalize bkP N D M T n = v at HP ⊢
  generalize bkE N D M T n = x at HS HP HE ⊢
  have HN : Hid (lay N D M T = .agg #[.int .i64 N, .int .i64 D, .int .i64 M, .int .i64 T]) := rfl
  have X0 := hid_of (show Bx _ _ _ _ _ _ from heap_new w (.cells #[.int .i64 N, .int .i64 D, .int .i64 M, .int .i64 T] 23))
  have B0 := hid_of (below_new w (.cells #[.int .i64 N, .int .i64 D, .int .i64 M, .int .i64 T] 23))
  rw [HN.out]
  go_enter Try.func15, Try.ntmps15
  go_wp2_with fail
  generalize w.alloc (.cells #[.int .i64 N, .int .i64 D, .int .i64 M, .int .i64 T] 23) = W at *
  refine (refCheck_any N D M T _).mono ?_
  rintro e w1 ⟨rfl, h1⟩
  have B1 := hid_of (B0.out.trans (h1.mono B0.out.size))
  have X1 := hid_of (X0.out.below h1)
  obtain ⟨k0, k1, k2, k3⟩ := X1.out.cells
  clear h1 B0 X0
  generalize lck N D M T = l at HZ HE ⊢
  by_cases c0 : l = 0
  · obtain ⟨n1, n2, d1, d2, m1, m2, hf, t1, t2⟩ := HZ.out c0
    subst c0
    by_cases a0 : n < 0
    · rw [blw_n (.inl a0)] at HE
      have hx : x = 3 := HE.out
      subst hx
      rw [if_neg (by omega)] at HS HP
      have hu := HS.out
      have hv := HP.out
      subst hu hv
      go_wp2_with fail
      go_ret3
      exact ⟨rfl, B1.out⟩
    by_cases a1 : 64 * D ≤ n
    · rw [blw_n (.inr a1)] at HE
      have hx : x = 3 := HE.out
      subst hx
      rw [if_neg (by omega)] at HS HP
      have hu := HS.out
      have hv := HP.out
      subst hu hv
      go_wp2_with fail
      go_ret3
      exact ⟨rfl, B1.out⟩
    rw [blw_i ⟨by omega, by omega⟩] at HE
    have hx : x = 0 := HE.out
    subst hx
    rw [if_pos rfl] at HS HP
    have hn5 : n ≤ 600 := by omega
    have HK := hid_of k1
    go_wp2_with fail
    go_loop [1, 8] (fun r i => ∃ (k : Nat) (q : Int), 0 ≤ q ∧ r = .int .i64 q ∧ i = .int .i64 k ∧ Hid (q + (k : Int) * D = n)) (fun r _ => (intOf r).toNat)
    case atStart => exact ⟨0, n, by omega, rfl, rfl, hid_of (by simp)⟩
    case round =>
      obtain ⟨k, q, q1, rfl, rfl, HQ⟩ := hrel
      have hk := div_le d1 HQ.out q1
      have hq5 : q ≤ 600 := by
        have h := HQ.out
        have : 0 ≤ (k : Int) * D := Int.mul_nonneg (by omega) (by omega)
        omega
      by_cases c : D ≤ q
      · have HQ2 := hid_of (div_step HQ.out)
        go_wp2_with fail
        go_round
        case rel => exact ⟨k + 1, q - D, by omega, rfl, by go_num, HQ2⟩
        case measure => simp [intOf]; omega
      · obtain ⟨e1, e2⟩ := div_at d1 HQ.out q1 (by omega)
        rw [e1] at HS
        rw [e2] at HP
        have hu := HS.out
        have hv := HP.out
        subst hu hv
        clear e1 e2
        go_wp2_with fail
        go_ret3
        exact ⟨rfl, B1.out⟩
  · have tx : (l == 0) = false := beq_eq_false_iff_ne.2 c0
    have ty : (l != 0) = true := by rw [bne_iff_ne]; exact c0
    rw [lcs_no c0] at HE
    have hx := HE.out
    subst hx
    rw [if_neg c0] at HS HP
    have hu := HS.out
    have hv := HP.out
    subst hu hv
    go_wp2_with fail
    go_ret3
    exact ⟨rfl, B1.out⟩
/-- how many of the first s stripes have a piece on node j: as the reference counts -/
def cp (N D M T : Int) (j : Nat) : Nat → Nat
  | 0 => 0
  | s + 1 => cp N D M T j s + if pcB N D M T s j = true then 1 else 0
theorem cp_le (N D M T : Int) (j s : Nat) : cp N D M T j s ≤ s := by
  induction s with
  | zero => simp [cp]
  | succ s ih => simp only [cp]; split <;> omega
theorem hit_run {n x j P : Nat} (hP : P ≤ n) (hn : 0 < n) : run (fun p => hit n (x + p) j) P = 1 ∨ run (fun p => hit n (x + p) j) P = 0 := by
  by_cases hj : j < n
  · have h := hit_all hj x
    have m := run_mono (fun p => hit n (x + p) j) hP
    rw [h] at m
    omega
  · right
    have : run (fun p => hit n (x + p) j) P = run (fun _ => 0) P := run_congr fun p _ => by
      unfold hit
      rw [if_neg]
      have := Nat.mod_lt (x + p) hn
      omega
    rw [this, run_const, Nat.mul_zero]
theorem run_pos {f : Nat → Nat} {k : Nat} : 0 < run f k ↔ ∃ i, i < k ∧ 0 < f i := by
  induction k with
  | zero => simp [run]
  | succ k ih =>
    simp only [run]
    constructor
    · intro h
      by_cases c : 0 < run f k
      · obtain ⟨i, hi, hf⟩ := ih.1 c
        exact ⟨i, by omega, hf⟩
      · exact ⟨k, by omega, by omega⟩
    · rintro ⟨i, hi, hf⟩
      by_cases c : i = k
      · subst c; omega
      · have := ih.2 ⟨i, by omega, hf⟩
        omega
theorem c1_pc {N D M T : Int} (hL : Lok N D M T) {s j : Nat} (hs : s < 64) (hj : (j : Int) < N) : c1 N T s (D + M).toNat j = if pcB N D M T s j = true then 1 else 0 := by
  have hE := pc_of hL (s := s) (n := j) (by omega) (by omega) (by omega) hj
  have hPO := fun (k : Nat) (hk : (k : Int) < D + M) => pcP_of hL (s := s) (n := j) (by omega) hj (k := k) (by omega) hk
  obtain ⟨n1, n2, d1, d2, m1, m2, hf, t1, t2⟩ := hL
  have hB : pcB N D M T s j = decide (pcP N T s j < D + M) := by unfold pcB; rw [hE]; rfl
  have hp0 : 0 ≤ pcP N T s j := Int.emod_nonneg _ (by omega)
  obtain ⟨n, rfl⟩ := Int.eq_ofNat_of_zero_le (show 0 ≤ N by omega)
  obtain ⟨t, rfl⟩ := Int.eq_ofNat_of_zero_le t1
  obtain ⟨P, hP⟩ : ∃ P : Nat, D + M = (P : Int) := ⟨(D + M).toNat, by omega⟩
  rw [hB, hP, Int.toNat_natCast, c1_run]
  have h01 := hit_run (n := n) (x := t + s) (j := j) (P := P) (by omega) (by omega)
  have hpos := @run_pos (fun p => hit n (t + s + p) j) P
  by_cases c : pcP n t s j < (P : Int)
  · rw [decide_eq_true c, if_pos rfl]
    have : 0 < run (fun p => hit n (t + s + p) j) P := hpos.2 ⟨(pcP n t s j).toNat, by omega, by
      have h := (hPO (pcP n t s j).toNat (by omega)).2 (by omega)
      rw [ndo_nat] at h
      unfold hit
      rw [if_pos (by omega)]
      omega⟩
    omega
  · rw [decide_eq_false c, if_neg (by simp)]
    rcases h01 with h | h
    · obtain ⟨p, hp, hh⟩ := hpos.1 (by omega)
      exfalso
      unfold hit at hh
      split at hh
      · rename_i e
        have := (hPO p (by omega)).1 (by rw [ndo_nat, e])
        omega
      · omega
    · exact h
theorem cp_c2 {N D M T : Int} (hL : Lok N D M T) {j : Nat} (hj : (j : Int) < N) : ∀ {s : Nat}, s ≤ 64 → cp N D M T j s = c2 N T (D + M).toNat s j
  | 0, _ => rfl
  | s + 1, hs => by
    simp only [cp, c2]
    rw [cp_c2 hL hj (by omega), c1_pc hL (by omega) hj]
theorem map_snoc (f : Nat → Int) (k : Nat) : (List.range (k + 1)).map f = (List.range k).map f ++ [f k] := by simp [List.range_succ]
end Go.Proofs.Ytegpniiokiejhaa
