/- Stamps: Check, Less, and the reference's. -/
import Derived.Test.YtcplbpnpcmgjfaaChecked
import Derived.Below
import Derived.Deep.RegionWith
import Derived.BigQuiet
import Derived.BigRegion
import Derived.Deep.QuietTactic
import Derived.Shelf.Abstract
import Derived.WalkKit
import Derived.ProofKit
import Derived.OpenShut
namespace Go.Proofs.Ytcplbpnpcmgjfaa
open Go.ChangeShapes Go.WideShapes Go.ChangeAt Go.RowKit Go.Shelf
theorem hid_of {p : Prop} (h : p) : Hid p := h
theorem ret_int {k : IntKind} {a b : Int} (h : a = b) : Ending.returned (.int k a) = .returned (.int k b) := by rw [h]
theorem ret_bool {a b : Bool} (h : a = b) : Ending.returned (.bool a) = .returned (.bool b) := by rw [h]
theorem cell_lt {w : World} {p : Addr} {u : Value} (h : w.cell? p = some u) : p.block < w.heap.size := by
  unfold World.cell? at h
  by_cases hp : p.block < w.heap.size
  · exact hp
  · rw [Array.getElem?_eq_none (by omega)] at h
    simp at h
theorem below_new (w : World) (o : Obj) : Below w.heap.size w (w.alloc o) := (Below.refl _ _).alloc (Nat.le_refl _) _
theorem heap_lt {w : World} {b : Nat} {o : Obj} (h : w.heap[b]? = some o) : b < w.heap.size := (Array.getElem?_eq_some_iff.1 h).1
theorem heap_new (w : World) (o : Obj) : (w.alloc o).heap[w.heap.size]? = some o := by show (w.heap.push _)[w.heap.size]? = _; simp
theorem heap_old {w : World} {b : Nat} {o : Obj} (h : w.heap[b]? = some o) (o' : Obj) : (w.alloc o').heap[b]? = some o := ((below_new w o').block b (heap_lt h)).trans h
theorem heap_at (w : World) (o : Obj) {b : Nat} (h : w.heap.size = b) : (w.alloc o).heap[b]? = some o := by subst h; exact heap_new w o
theorem size_new (w : World) (o : Obj) : (w.alloc o).heap.size = w.heap.size + 1 := by show (w.heap.push _).size = _; simp
theorem below_new2 (w : World) (A B : Obj) : Below w.heap.size w ((w.alloc A).alloc B) := (below_new w A).trans ((below_new _ B).mono (below_new w A).size)
/-- a stamp -/
abbrev St := Int × Int
/-- a stamp as a value -/
def sv (p : St) : Value := .agg #[.int .i64 p.1, .int .i64 p.2]
/-- what Check answers -/
def sck (p : St) : Int := if p.1 < 0 ∨ 1000000 < p.1 ∨ p.2 < 0 ∨ 31 < p.2 then 3 else 0
/-- is a's time less than b's, or the same, and its who less? -/
def slt (a b : St) : Bool := decide (a.1 < b.1 ∨ a.1 = b.1 ∧ a.2 < b.2)
theorem slt_t {a b : St} (h : a.1 < b.1 ∨ a.1 = b.1 ∧ a.2 < b.2) : slt a b = true := decide_eq_true h
theorem slt_f {a b : St} (h : ¬ (a.1 < b.1 ∨ a.1 = b.1 ∧ a.2 < b.2)) : slt a b = false := decide_eq_false h
set_option maxHeartbeats 400000 in
theorem check_any (p : St) (w : World) : Calls Try.prog 14 #[sv p] w fun e w' => e = .returned (.int .i64 (sck p)) ∧ Below w.heap.size w w' := by
  obtain ⟨t, u⟩ := p
  have HN : Hid (sv (t, u) = .agg #[.int .i64 t, .int .i64 u]) := rfl
  rw [HN.out]
  by_cases c1 : t < 0
  · have HE : Hid (sck (t, u) = 3) := hid_of (if_pos (.inl c1))
    go_enter Try.func14, Try.ntmps14
    go_wp2_with fail
    go_ret
    exact ⟨ret_int HE.out.symm, below_new _ _⟩
  by_cases c2 : 1000000 < t
  · have HE : Hid (sck (t, u) = 3) := hid_of (if_pos (.inr (.inl c2)))
    go_enter Try.func14, Try.ntmps14
    go_wp2_with fail
    go_ret
    exact ⟨ret_int HE.out.symm, below_new _ _⟩
  by_cases c3 : u < 0
  · have HE : Hid (sck (t, u) = 3) := hid_of (if_pos (.inr (.inr (.inl c3))))
    go_enter Try.func14, Try.ntmps14
    go_wp2_with fail
    go_ret
    exact ⟨ret_int HE.out.symm, below_new _ _⟩
  by_cases c4 : 31 < u
  · have HE : Hid (sck (t, u) = 3) := hid_of (if_pos (.inr (.inr (.inr c4))))
    go_enter Try.func14, Try.ntmps14
    go_wp2_with fail
    go_ret
    exact ⟨ret_int HE.out.symm, below_new _ _⟩
  · have HE : Hid (sck (t, u) = 0) := hid_of (if_neg (by simp only [not_or]; exact ⟨c1, c2, c3, c4⟩))
    go_enter Try.func14, Try.ntmps14
    go_wp2_with fail
    go_ret
    exact ⟨ret_int HE.out.symm, below_new _ _⟩
set_option maxHeartbeats 400000 in
theorem less_any (a b : St) (w : World) : Calls Try.prog 16 #[sv a, sv b] w fun e w' => e = .returned (.bool (slt a b)) ∧ Below w.heap.size w w' := by
  obtain ⟨t, u⟩ := a
  obtain ⟨s, v⟩ := b
  have HN : Hid (sv (t, u) = .agg #[.int .i64 t, .int .i64 u]) := rfl
  have HM : Hid (sv (s, v) = .agg #[.int .i64 s, .int .i64 v]) := rfl
  rw [HN.out, HM.out]
  by_cases c1 : t < s
  · have HE : Hid (slt (t, u) (s, v) = true) := hid_of (slt_t (.inl c1))
    have z1 : decide (t < s) = true := decide_eq_true c1
    go_enter Try.func16, Try.ntmps16
    go_wp2_with fail
    go_ret
    exact ⟨ret_bool HE.out.symm, below_new2 _ _ _⟩
  have z1 : decide (t < s) = false := decide_eq_false c1
  by_cases c2 : t = s
  · by_cases c3 : u < v
    · have HE : Hid (slt (t, u) (s, v) = true) := hid_of (slt_t (.inr ⟨c2, c3⟩))
      subst c2
      have z3 : decide (u < v) = true := decide_eq_true c3
      go_enter Try.func16, Try.ntmps16
      go_wp2_with fail
      go_ret
      exact ⟨ret_bool (by rw [HE.out]), below_new2 _ _ _⟩
    · have HE : Hid (slt (t, u) (s, v) = false) := hid_of (slt_f (by simp; omega))
      subst c2
      have z3 : decide (u < v) = false := decide_eq_false c3
      go_enter Try.func16, Try.ntmps16
      go_wp2_with fail
      go_ret
      exact ⟨ret_bool (by rw [HE.out]), below_new2 _ _ _⟩
  · have z2 : (t == s) = false := beq_eq_false_iff_ne.2 c2
    have HE : Hid (slt (t, u) (s, v) = false) := hid_of (slt_f (by simp; omega))
    go_enter Try.func16, Try.ntmps16
    go_wp2_with fail
    go_ret
    exact ⟨ret_bool HE.out.symm, below_new2 _ _ _⟩
end Go.Proofs.Ytcplbpnpcmgjfaa
