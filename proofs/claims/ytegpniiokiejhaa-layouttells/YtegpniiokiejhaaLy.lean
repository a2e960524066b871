/- The calls of package layout that ask and count: isBelow, isCount, pieces, nodeOf, Check. -/
import Derived.Test.YtegpniiokiejhaaChecked
import Derived.Below
import Derived.Deep.RegionWith
import Derived.BigQuiet
import Derived.BigRegion
import Derived.Deep.QuietTactic
import Derived.Shelf.Abstract
import Derived.WalkKit
import Derived.ProofKit
import Derived.OpenShut
namespace Go.Proofs.Ytegpniiokiejhaa
open Go.ChangeShapes Go.WideShapes Go.ChangeAt Go.RowKit Go.Shelf
theorem hid_of {p : Prop} (h : p) : Hid p := h
theorem ret_int {k : IntKind} {a b : Int} (h : a = b) : Ending.returned (.int k a) = .returned (.int k b) := by rw [h]
theorem ret_bool {a b : Bool} (h : a = b) : Ending.returned (.bool a) = .returned (.bool b) := by rw [h]
theorem bcell {W w1 : World} (hb : Below W.heap.size W w1) : (∀ b o, b < W.heap.size → w1.cell? ⟨b, o, none⟩ = W.cell? ⟨b, o, none⟩) ∧ (∀ b o, b < W.heap.size → w1.frozen? ⟨b, o, none⟩ = W.frozen? ⟨b, o, none⟩) :=
  ⟨fun b o h => hb.cell (p := ⟨b, o, none⟩) h, fun b o h => hb.frozen (p := ⟨b, o, none⟩) h⟩
/-- is n at least 0 and below e? -/
def blw (n e : Int) : Bool := decide (0 ≤ n) && decide (n < e)
/-- is n at least 1 and at most m? -/
def cnt (n m : Int) : Bool := decide (1 ≤ n) && decide (n ≤ m)
theorem blw_t {n e : Int} (h : blw n e = true) : 0 ≤ n ∧ n < e := by simpa [blw] using h
theorem blw_f {n e : Int} (h : blw n e = false) : n < 0 ∨ e ≤ n := by simp [blw] at h; omega
theorem blw_i {n e : Int} (h : 0 ≤ n ∧ n < e) : blw n e = true := by simp [blw, h]
theorem blw_n {n e : Int} (h : n < 0 ∨ e ≤ n) : blw n e = false := by simp [blw]; omega
theorem cnt_t {n e : Int} (h : cnt n e = true) : 1 ≤ n ∧ n ≤ e := by simpa [cnt] using h
theorem cnt_f {n e : Int} (h : cnt n e = false) : n < 1 ∨ e < n := by simp [cnt] at h; omega
set_option maxHeartbeats 400000 in
theorem isBelow_any (n e : Int) (w : World) : Calls Try.prog 33 #[.int .i64 n, .int .i64 e] w fun x w' => x = .returned (.bool (blw n e)) ∧ w' = w := by
  by_cases h1 : 0 ≤ n
  · have t1 : decide (0 ≤ n) = true := decide_eq_true h1
    go_enter Try.func33, Try.ntmps33
    go_wp2
    go_ret
    exact ⟨ret_bool (by simp [blw, h1]), rfl⟩
  · have t1 : decide (0 ≤ n) = false := decide_eq_false h1
    go_enter Try.func33, Try.ntmps33
    go_wp2
    go_ret
    exact ⟨ret_bool (by rw [blw, t1]; rfl), rfl⟩
set_option maxHeartbeats 400000 in
theorem isCount_any (n e : Int) (w : World) : Calls Try.prog 41 #[.int .i64 n, .int .i64 e] w fun x w' => x = .returned (.bool (cnt n e)) ∧ w' = w := by
  by_cases h1 : 1 ≤ n
  · have t1 : decide (1 ≤ n) = true := decide_eq_true h1
    go_enter Try.func41, Try.ntmps41
    go_wp2
    go_ret
    exact ⟨ret_bool (by simp [cnt, h1]), rfl⟩
  · have t1 : decide (1 ≤ n) = false := decide_eq_false h1
    go_enter Try.func41, Try.ntmps41
    go_wp2
    go_ret
    exact ⟨ret_bool (by rw [cnt, t1]; rfl), rfl⟩
/-- a layout -/
def lay (N D M T : Int) : Value := .agg #[.int .i64 N, .int .i64 D, .int .i64 M, .int .i64 T]
set_option maxHeartbeats 400000 in
theorem pieces_any (N D M T : Int) (w : World) (d1 : 1 ≤ D) (d2 : D ≤ 8) (m1 : 1 ≤ M) (m2 : M ≤ 6) : Calls Try.prog 34 #[lay N D M T] w fun x w' => x = .returned (.int .i64 (D + M)) ∧ Below w.heap.size w w' := by
  unfold lay
  go_enter Try.func34, Try.ntmps34
  go_wp2
  go_ret
  exact ⟨rfl, (Below.refl _ _).alloc (Nat.le_refl _) _⟩
set_option maxHeartbeats 400000 in
theorem nodeOf_any (N D M T s p : Int) (w : World) (n1 : 1 ≤ N) (n2 : N ≤ 12) (t1 : 0 ≤ T) (t2 : T < N) (s1 : 0 ≤ s) (s2 : s ≤ 64) (p1 : 0 ≤ p) (p2 : p ≤ 64) : Calls Try.prog 35 #[lay N D M T, .int .i64 s, .int .i64 p] w fun x w' => x = .returned (.int .i64 ((T + s + p) % N)) ∧ Below w.heap.size w w' := by
  unfold lay
  go_enter Try.func35, Try.ntmps35
  go_wp2
  go_ret
  exact ⟨rfl, (Below.refl _ _).alloc (Nat.le_refl _) _⟩
/-- what Check answers -/
def lck (N D M T : Int) : Int := if (cnt N 12 && cnt D 8 && cnt M 6) = true then (if N < D + M then 8 else if blw T N = true then 0 else 3) else 3
theorem cell_lt {w : World} {p : Addr} {u : Value} (h : w.cell? p = some u) : p.block < w.heap.size := by
  unfold World.cell? at h
  by_cases hp : p.block < w.heap.size
  · exact hp
  · rw [Array.getElem?_eq_none (by omega)] at h
    simp at h
theorem below_new (w : World) (o : Obj) : Below w.heap.size w (w.alloc o) := (Below.refl _ _).alloc (Nat.le_refl _) _
/-- block b is a box that holds a layout -/
def Bx (w : World) (b : Nat) (N D M T : Int) : Prop := w.heap[b]? = some (.cells #[.int .i64 N, .int .i64 D, .int .i64 M, .int .i64 T] 23)
/-- block b is a box that holds a number -/
def Bi (w : World) (b : Nat) (n : Int) : Prop := w.heap[b]? = some (.cells #[.int .i64 n] 3)
theorem heap_lt {w : World} {b : Nat} {o : Obj} (h : w.heap[b]? = some o) : b < w.heap.size := (Array.getElem?_eq_some_iff.1 h).1
theorem heap_new (w : World) (o : Obj) : (w.alloc o).heap[w.heap.size]? = some o := by show (w.heap.push _)[w.heap.size]? = _; simp
theorem heap_old {w : World} {b : Nat} {o : Obj} (h : w.heap[b]? = some o) (o' : Obj) : (w.alloc o').heap[b]? = some o := ((below_new w o').block b (heap_lt h)).trans h
theorem Bx.below {w w' : World} {b : Nat} {N D M T : Int} (h : Bx w b N D M T) (hb : Below w.heap.size w w') : Bx w' b N D M T := (hb.block b (heap_lt h)).trans h
theorem Bi.below {w w' : World} {b : Nat} {n : Int} (h : Bi w b n) (hb : Below w.heap.size w w') : Bi w' b n := (hb.block b (heap_lt h)).trans h
theorem Bx.cells {w : World} {b : Nat} {N D M T : Int} (h : Bx w b N D M T) : w.cell? ⟨b, 0, none⟩ = some (.int .i64 N) ∧ w.cell? ⟨b, 1, none⟩ = some (.int .i64 D) ∧ w.cell? ⟨b, 2, none⟩ = some (.int .i64 M) ∧ w.cell? ⟨b, 3, none⟩ = some (.int .i64 T) := by
  unfold Bx at h
  simp [World.cell?, h]
theorem Bi.cell {w : World} {b : Nat} {n : Int} (h : Bi w b n) : w.cell? ⟨b, 0, none⟩ = some (.int .i64 n) := by
  unfold Bi at h
  simp [World.cell?, h]
set_option maxHeartbeats 1000000 in
theorem lcheck_any (N D M T : Int) (w : World) : Calls Try.prog 18 #[lay N D M T] w fun x w' => x = .returned (.int .i64 (lck N D M T)) ∧ Below w.heap.size w w' := by
  unfold lay
  have hmx : Try.prog.follows Departure.mixedOrders = true := by kernel_rfl
  cases c1 : cnt N 12
  · have HR : Hid (lck N D M T = 3) := by unfold lck; rw [c1]; rfl
    go_enter Try.func18, Try.ntmps18
    go_wp2_with (go_at_call 41; refine (isCount_any _ _ _).mono ?_; rintro e w' ⟨rfl, rfl⟩)
    go_ret
    exact ⟨ret_int HR.out.symm, below_new _ _⟩
  cases c2 : cnt D 8
  · have HR : Hid (lck N D M T = 3) := by unfold lck; rw [c1, c2]; rfl
    go_enter Try.func18, Try.ntmps18
    go_wp2_with (go_at_call 41; refine (isCount_any _ _ _).mono ?_; rintro e w' ⟨rfl, rfl⟩)
    go_ret
    exact ⟨ret_int HR.out.symm, below_new _ _⟩
  cases c3 : cnt M 6
  · have HR : Hid (lck N D M T = 3) := by unfold lck; rw [c1, c2, c3]; rfl
    go_enter Try.func18, Try.ntmps18
    go_wp2_with (go_at_call 41; refine (isCount_any _ _ _).mono ?_; rintro e w' ⟨rfl, rfl⟩)
    go_ret
    exact ⟨ret_int HR.out.symm, below_new _ _⟩
  obtain ⟨n1, n2⟩ := cnt_t c1
  obtain ⟨d1, d2⟩ := cnt_t c2
  obtain ⟨m1, m2⟩ := cnt_t c3
  have HR : Hid (lck N D M T = if N < D + M then 8 else if blw T N = true then 0 else 3) := by unfold lck; rw [c1, c2, c3]; rfl
  go_enter Try.func18, Try.ntmps18
  go_wp2_with (go_at_call 41; refine (isCount_any _ _ _).mono ?_; rintro e w' ⟨rfl, rfl⟩)
  obtain ⟨W, hW⟩ : ∃ W, W = w.alloc (.cells #[.int .i64 N, .int .i64 D, .int .i64 M, .int .i64 T] 23) := ⟨_, rfl⟩
  have BW : Hid (Below w.heap.size w W) := by rw [hW]; exact below_new _ _
  have hX : Bx W w.heap.size N D M T := by rw [hW]; exact heap_new _ _
  have HX := hid_of hX
  have HC : Hid (∀ w', Below W.heap.size W w' → _) := hid_of fun w' (hw' : Below W.heap.size W w') => (hX.below hw').cells
  rw [← hW]
  clear hW hX
  refine wp_region_quiet (C := fun w' => Below W.heap.size W w') hmx (by kernel_rfl) ((Below.refl _ _).drew) ?_
  repeat
    refine wpQuiet_step (fun K hK => ?_)
    go_simp
    first
      | (refine ⟨_, fun w' hw' => rfl, hK _ ?_⟩; clear hK K)
      | (refine ⟨_, fun w' hw' => (by simp only [HC.out w' hw', Result.andThen]; first | exact ⟨rfl, rfl⟩ | exact ⟨trivial, rfl⟩ | rfl), hK _ ?_⟩; clear hK K)
      | (refine ⟨.int .i64 (D + M), fun w' hw' => ?_, hK _ ?_⟩; (refine (pieces_any _ _ _ _ _ d1 d2 m1 m2).mono ?_; rintro e w2 ⟨rfl, hB⟩; exact ⟨rfl, hw'.trans (hB.mono hw'.size)⟩); clear hK K)
  refine wpQuiet_nil ?_
  intro wq hq
  obtain ⟨k0, k1, k2, k3⟩ := (HX.out.below hq).cells
  by_cases c4 : N < D + M
  · have t4 : decide (N < D + M) = true := decide_eq_true c4
    rw [if_pos c4] at HR
    go_wp2_with fail
    go_ret
    exact ⟨ret_int HR.out.symm, BW.out.trans (hq.mono BW.out.size)⟩
  · have t4 : decide (N < D + M) = false := decide_eq_false c4
    rw [if_neg c4] at HR
    go_wp2_with fail
    refine (isBelow_any _ _ _).mono ?_
    rintro e w' ⟨rfl, rfl⟩
    cases c5 : blw T N
    · rw [c5] at HR
      go_wp2_with fail
      go_ret
      exact ⟨ret_int HR.out.symm, BW.out.trans (hq.mono BW.out.size)⟩
    · rw [c5] at HR
      go_wp2_with fail
      go_ret
      exact ⟨ret_int HR.out.symm, BW.out.trans (hq.mono BW.out.size)⟩
end Go.Proofs.Ytegpniiokiejhaa
