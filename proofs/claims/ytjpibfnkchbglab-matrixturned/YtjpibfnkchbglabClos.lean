/- The functions that Inverse, Rank and Rows hand to fill. -/
import Derived.Test.YtjpibfnkchbglabMmul
namespace Go.Proofs.Ytjpibfnkchbglab
open Go.ChangeShapes Go.WideShapes Go.ChangeAt Go.RowKit Go.Shelf
theorem cf32 (args : Array Value) (W : World) : (callFunc 37 args).run Try.prog W = .ok (.enter 37 args) W := by rfl
theorem cf34 (args : Array Value) (W : World) : (callFunc 40 args).run Try.prog W = .ok (.enter 40 args) W := by rfl
theorem cf35 (args : Array Value) (W : World) : (callFunc 63 args).run Try.prog W = .ok (.enter 63 args) W := by rfl
theorem cf45 (args : Array Value) (W : World) : (callFunc 36 args).run Try.prog W = .ok (.enter 36 args) W := by rfl
/-- a byte of a matrix that is read -/
theorem Mx.byte {N : Nat} {W : World} {va : Value} {A : List (List Nat)} (hA : Mx N W va A) {n c i k : Nat} (rA : Rect A n c) (hi : i < n) (hk : k < c) : ∃ b o ca b2 o2 k2, va = .slice (some ⟨b, o, none⟩) n ca ∧ W.cell? ⟨b, o + i, none⟩ = some (.slice (some ⟨b2, o2, none⟩) c k2) ∧ W.cell? ⟨b2, o2 + k, none⟩ = some (.int .u8 (ent A i k : Nat)) ∧ ent A i k < 256 := by
  obtain ⟨a, ca, hva⟩ := hA.shape
  subst hva
  obtain ⟨b, o, r, k2, rfl, hx, hx2⟩ := hA.at (j := i) (by rw [rA.len]; exact hi)
  obtain ⟨b2, o2, rfl, hy⟩ := hx2.at (j := k) (by rw [rA.row i hi]; exact hk)
  rw [rA.row i hi] at hx
  refine ⟨b, o, ca, b2, o2, k2, by rw [rA.len], hx, hy, getD_lt hx2.1 k⟩
theorem Mx.lt {N : Nat} {W : World} {va : Value} {A : List (List Nat)} (hA : Mx N W va A) (i k : Nat) : ent A i k < 256 := by
  by_cases hi : i < A.length
  · obtain ⟨a, ca, hva⟩ := hA.shape
    subst hva
    obtain ⟨b, o, r, k2, rfl, hx, hx2⟩ := hA.at (j := i) hi
    exact getD_lt hx2.1 k
  · unfold ent
    rw [List.getElem?_eq_none (l := A) (by omega)]
    simp
set_option maxRecDepth 100000 in
set_option maxHeartbeats 1000000 in
theorem rank1_any (ba : Nat) (va : Value) (A : List (List Nat)) (n c : Nat) (N : Nat) (W : World) (ca : W.cell? ⟨ba, 0, none⟩ = some va) (hA : Mx N W va A) (rA : Rect A n c) (i k : Nat) (hi : i < n) (hk : k < c) :
    Calls Try.prog 63 #[.int .i64 (i : Nat), .int .i64 (k : Nat), .pointer (some ⟨ba, 0, none⟩)] W fun e w' => e = .returned (.int .u8 (ent A i k : Nat)) ∧ w' = W := by
  obtain ⟨b, o, c1, b2, o2, k2, rfl, hx, hy, _⟩ := hA.byte rA hi hk
  clear hA rA
  go_enter Try.func63, Try.ntmps63
  go_wp2_with fail
  go_ret
  exact ⟨rfl, rfl⟩
theorem rank_clo (ba : Nat) (va : Value) (A : List (List Nat)) (n c : Nat) (w : World) (ca : w.cell? ⟨ba, 0, none⟩ = some va) (la : ba < w.heap.size) (hA : Mx w.heap.size w va A) (rA : Rect A n c) : Clo 63 #[.pointer (some ⟨ba, 0, none⟩)] w (ent A) n c := by
  intro W hW i k hi hk
  refine ⟨hA.lt i k, ?_⟩
  refine (rank1_any ba va A n c w.heap.size W ((hW.cell (p := ⟨ba, 0, none⟩) la).trans ca) (hA.below hW) rA i k hi hk).mono ?_
  rintro e w' ⟨rfl, rfl⟩
  exact ⟨rfl, Below.refl _ _⟩
/-- a matrix with Unit at its right -/
def wf (A : List (List Nat)) (n i k : Nat) : Nat := if k < n then ent A i k else uf i (k - n)
set_option maxRecDepth 100000 in
set_option maxHeartbeats 1000000 in
theorem inv1_any (ba bn : Nat) (va : Value) (A : List (List Nat)) (n : Nat) (N : Nat) (W : World) (ca : W.cell? ⟨ba, 0, none⟩ = some va) (cn : W.cell? ⟨bn, 0, none⟩ = some (.int .i64 (n : Nat))) (hA : Mx N W va A) (rA : Rect A n n) (i k : Nat) (hi : i < n) (hk : k < 2 * n) :
    Calls Try.prog 37 #[.int .i64 (i : Nat), .int .i64 (k : Nat), .pointer (some ⟨bn, 0, none⟩), .pointer (some ⟨ba, 0, none⟩)] W fun e w' => e = .returned (.int .u8 (wf A n i k : Nat)) ∧ w' = W := by
  have n16 := rA.n16
  by_cases h : k < n
  · obtain ⟨b, o, c1, b2, o2, k2, rfl, hx, hy, _⟩ := hA.byte rA hi h
    have z : decide ((k : Int) < (n : Int)) = true := decide_eq_true (by omega)
    have HE : Hid (wf A n i k = ent A i k) := by show wf A n i k = _; unfold wf; rw [if_pos h]
    clear hA rA
    go_enter Try.func37, Try.ntmps37
    go_wp2_with fail
    go_ret
    exact ⟨by rw [HE.out]; rfl, rfl⟩
  · have z : decide ((k : Int) < (n : Int)) = false := decide_eq_false (by omega)
    have HE : Hid (wf A n i k = uf i (k - n)) := by show wf A n i k = _; unfold wf; rw [if_neg h]
    have s1 : IntKind.i64.wrap ((k : Int) - (n : Int)) = ((k - n : Nat) : Int) := by rw [IntKind.wrap_i64]; omega
    obtain ⟨m, hm⟩ : ∃ m, k - n = m := ⟨_, rfl⟩
    rw [hm] at s1 HE
    clear hA rA hm
    go_enter Try.func37, Try.ntmps37
    go_wp2_with fail
    refine (unitAt_any i m _).mono ?_
    rintro e w2 ⟨rfl, hw⟩
    subst hw
    go_wp2_with fail
    go_ret
    exact ⟨by rw [HE.out]; rfl, rfl⟩
theorem inv1_clo (ba bn : Nat) (va : Value) (A : List (List Nat)) (n : Nat) (w : World) (ca : w.cell? ⟨ba, 0, none⟩ = some va) (cn : w.cell? ⟨bn, 0, none⟩ = some (.int .i64 (n : Nat))) (la : ba < w.heap.size) (ln : bn < w.heap.size) (hA : Mx w.heap.size w va A) (rA : Rect A n n) : Clo 37 #[.pointer (some ⟨bn, 0, none⟩), .pointer (some ⟨ba, 0, none⟩)] w (wf A n) n (2 * n) := by
  intro W hW i k hi hk
  refine ⟨?_, ?_⟩
  · unfold wf
    split
    · exact hA.lt i k
    · unfold uf; split <;> decide
  refine (inv1_any ba bn va A n w.heap.size W ((hW.cell (p := ⟨ba, 0, none⟩) la).trans ca) ((hW.cell (p := ⟨bn, 0, none⟩) ln).trans cn) (hA.below hW) rA i k hi hk).mono ?_
  rintro e w' ⟨rfl, rfl⟩
  exact ⟨rfl, Below.refl _ _⟩
set_option maxRecDepth 100000 in
set_option maxHeartbeats 1000000 in
theorem inv2_any (bw bn : Nat) (va : Value) (A : List (List Nat)) (n c : Nat) (N : Nat) (W : World) (ca : W.cell? ⟨bw, 0, none⟩ = some va) (cn : W.cell? ⟨bn, 0, none⟩ = some (.int .i64 (n : Nat))) (hA : Mx N W va A) (hl : A.length = n) (hr : ∀ j, j < n → (A[j]?.getD []).length = c) (hc : c ≤ 64) (i k : Nat) (hi : i < n) (hk : n + k < c) :
    Calls Try.prog 40 #[.int .i64 (i : Nat), .int .i64 (k : Nat), .pointer (some ⟨bw, 0, none⟩), .pointer (some ⟨bn, 0, none⟩)] W fun e w' => e = .returned (.int .u8 (ent A i (n + k) : Nat)) ∧ Below W.heap.size W w' := by
  obtain ⟨a, c1, hva⟩ := hA.shape
  subst hva
  obtain ⟨b, o, r, k2, rfl, hx, hx2⟩ := hA.at (j := i) (by omega)
  obtain ⟨b2, o2, rfl, hy⟩ := hx2.at (j := n + k) (by rw [hr i hi]; exact hk)
  rw [hr i hi] at hx
  rw [hl] at ca
  have s1 : IntKind.i64.wrap ((n : Int) + (k : Int)) = ((n + k : Nat) : Int) := by rw [IntKind.wrap_i64]; omega
  have HE : Hid (ent A i (n + k) = (A[i]?.getD [])[n + k]?.getD 0) := rfl
  obtain ⟨m, hm⟩ : ∃ m, n + k = m := ⟨_, rfl⟩
  rw [hm] at s1 hk hy HE ⊢
  have q1 : (m : Int) < (c : Int) := by omega
  clear hA hr hl hx2 hm
  go_enter Try.func40, Try.ntmps40
  go_wp2_with fail
  go_quiet (fail)
  go_wp2_with fail
  go_ret
  exact ⟨by rw [HE.out]; rfl, below_drewN _ (Below.refl _ _)⟩
end Go.Proofs.Ytjpibfnkchbglab
