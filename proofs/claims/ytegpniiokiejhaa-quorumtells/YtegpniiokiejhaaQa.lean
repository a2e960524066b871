/- Lists of weights: the calls of package quorum that ask and count. -/
import Derived.Test.YtegpniiokiejhaaChecked
import Derived.Below
import Derived.Deep.RegionWith
import Derived.BigQuiet
import Derived.BigRegion
import Derived.Deep.QuietTactic
import Derived.Shelf.Abstract
import Derived.WalkKit
import Derived.ProofKit
import Derived.OpenShut
namespace Go.Proofs.Ytegpniiokiejhaa
open Go.ChangeShapes Go.WideShapes Go.ChangeAt Go.RowKit Go.Shelf
theorem hid_of {p : Prop} (h : p) : Hid p := h
theorem ret_int {k : IntKind} {a b : Int} (h : a = b) : Ending.returned (.int k a) = .returned (.int k b) := by rw [h]
theorem ret_bool {a b : Bool} (h : a = b) : Ending.returned (.bool a) = .returned (.bool b) := by rw [h]
theorem cell_lt {w : World} {p : Addr} {u : Value} (h : w.cell? p = some u) : p.block < w.heap.size := by
  unfold World.cell? at h
  by_cases hp : p.block < w.heap.size
  · exact hp
  · rw [Array.getElem?_eq_none (by omega)] at h
    simp at h
theorem below_new (w : World) (o : Obj) : Below w.heap.size w (w.alloc o) := (Below.refl _ _).alloc (Nat.le_refl _) _
theorem heap_lt {w : World} {b : Nat} {o : Obj} (h : w.heap[b]? = some o) : b < w.heap.size := (Array.getElem?_eq_some_iff.1 h).1
theorem heap_new (w : World) (o : Obj) : (w.alloc o).heap[w.heap.size]? = some o := by show (w.heap.push _)[w.heap.size]? = _; simp
theorem heap_old {w : World} {b : Nat} {o : Obj} (h : w.heap[b]? = some o) (o' : Obj) : (w.alloc o').heap[b]? = some o := ((below_new w o').block b (heap_lt h)).trans h
theorem heap_at (w : World) (o : Obj) {b : Nat} (h : w.heap.size = b) : (w.alloc o).heap[b]? = some o := by subst h; exact heap_new w o
theorem size_new (w : World) (o : Obj) : (w.alloc o).heap.size = w.heap.size + 1 := by show (w.heap.push _).size = _; simp
theorem box2 (w : World) (A B : Obj) : Below w.heap.size w ((w.alloc A).alloc B) ∧ ((w.alloc A).alloc B).heap[w.heap.size]? = some A ∧ ((w.alloc A).alloc B).heap[w.heap.size + 1]? = some B := by
  have e1 := size_new w A
  refine ⟨((below_new w A).trans ((below_new _ B).mono (by omega))), (heap_old (heap_new _ _) _), (heap_at _ _ (by omega))⟩
/-- The slice value v holds the numbers L; n: all its memory lies below block n. -/
def Is (n : Nat) (w : World) (v : Value) (L : List Int) : Prop :=
  L.length ≤ 140737488351232 ∧ ∃ ao cap, v = .slice ao L.length cap ∧ L.length ≤ cap ∧
    (L = [] ∨ ∃ b off, ao = some ⟨b, off, none⟩ ∧ b < n ∧ ∀ j, j < L.length → w.cell? ⟨b, off + j, none⟩ = some (.int .i64 (L[j]?.getD 0)))
theorem Is.below {n : Nat} {w w' : World} {v : Value} {L : List Int} (h : Is n w v L) (hb : Below n w w') : Is n w' v L := by
  obtain ⟨h2, ao, cap, h3, h4, h6⟩ := h
  refine ⟨h2, ao, cap, h3, h4, ?_⟩
  rcases h6 with h6 | ⟨b, off, h7, h8, h9⟩
  · exact .inl h6
  · exact .inr ⟨b, off, h7, h8, fun j hj => (hb.cell (p := ⟨b, off + j, none⟩) h8).trans (h9 j hj)⟩
theorem Is.mono {n m : Nat} {w : World} {v : Value} {L : List Int} (h : Is n w v L) (hm : n ≤ m) : Is m w v L := by
  obtain ⟨h2, ao, cap, h3, h4, h6⟩ := h
  refine ⟨h2, ao, cap, h3, h4, ?_⟩
  rcases h6 with h6 | ⟨b, off, h7, h8, h9⟩
  · exact .inl h6
  · exact .inr ⟨b, off, h7, by omega, h9⟩
theorem Is.shape {n : Nat} {w : World} {v : Value} {L : List Int} (h : Is n w v L) : ∃ a c, v = .slice a L.length c := by
  obtain ⟨_, a, c, h, _⟩ := h
  exact ⟨a, c, h⟩
theorem Is.at {n l c : Nat} {w : World} {a : Option Addr} {L : List Int} (h : Is n w (.slice a l c) L) {j : Nat} (hj : j < L.length) : ∃ b off, a = some ⟨b, off, none⟩ ∧ w.cell? ⟨b, off + j, none⟩ = some (.int .i64 (L[j]?.getD 0)) := by
  obtain ⟨_, a', c', h, _, h6⟩ := h
  injection h with h _ _
  subst h
  rcases h6 with h | ⟨b, off, e, _, hc⟩
  · rw [h] at hj; simp at hj
  · exact ⟨b, off, e, hc j hj⟩
theorem Is.nil (n : Nat) (w : World) : Is n w (.slice none 0 0) [] := ⟨by simp, none, 0, rfl, by simp, .inl rfl⟩
/-- no weight -/
def wbad (x : Int) : Bool := decide (x < 0) || decide (100 < x)
set_option maxHeartbeats 400000 in
theorem check1_any (x : Int) (w : World) : Calls Try.prog 51 #[.int .i64 x] w fun e w' => e = .returned (.bool (wbad x)) ∧ w' = w := by
  by_cases h : x < 0
  · have z : decide (x < 0) = true := decide_eq_true h
    have HE : Hid (wbad x = true) := hid_of (by unfold wbad; rw [z]; rfl)
    go_enter Try.func51, Try.ntmps51
    go_wp2_with fail
    go_ret
    exact ⟨ret_bool HE.out.symm, rfl⟩
  · have z : decide (x < 0) = false := decide_eq_false h
    have HE : Hid (wbad x = decide (100 < x)) := hid_of (by unfold wbad; rw [z]; rfl)
    go_enter Try.func51, Try.ntmps51
    go_wp2_with fail
    go_ret
    exact ⟨ret_bool HE.out.symm, rfl⟩
theorem any_take {L : List Int} {k : Nat} (hk : k < L.length) : (L.take (k + 1)).any wbad = ((L.take k).any wbad || wbad (L[k]?.getD 0)) := by
  rw [List.take_succ_eq_append_getElem hk, List.any_append, List.getElem?_eq_getElem hk]
  simp
theorem any_of_take {L : List Int} {k : Nat} (h : (L.take k).any wbad = true) : L.any wbad = true := by
  rw [List.any_eq_true] at h ⊢
  obtain ⟨x, hx, hb⟩ := h
  exact ⟨x, List.mem_of_mem_take hx, hb⟩
set_option maxRecDepth 100000 in
set_option maxHeartbeats 1000000 in
theorem idx_any (v : Value) (L : List Int) (N : Nat) (w : World) (hL : Is N w v L) :
    Calls Try.prog 56 #[v, .func (.func 51) #[] #[]] w fun e w' => (∃ k : Int, e = .returned (.int .i64 k) ∧ decide (0 ≤ k) = L.any wbad) ∧ w' = w := by
  have HL := hid_of hL
  obtain ⟨l2, ao, cap, rfl, _⟩ := hL
  go_enter Try.func56, Try.ntmps56
  go_wp2_with fail
  go_loopw [8] (fun i w' => ∃ k : Nat, k ≤ L.length ∧ i = .int .i64 k ∧ Hid ((L.take k).any wbad = false) ∧ w' = w) (fun i _ => L.length - (intOf i).toNat)
  case atStart => exact ⟨0, by omega, rfl, rfl, rfl⟩
  case round =>
    obtain ⟨k, hk, rfl, HT, hw⟩ := hrel
    subst hw
    by_cases hlt : k < L.length
    · obtain ⟨b, off, rfl, hx⟩ := HL.out.at hlt
      have ht := any_take hlt
      rw [HT.out, Bool.false_or] at ht
      obtain ⟨x, hxe⟩ : ∃ x, L[k]?.getD 0 = x := ⟨_, rfl⟩
      rw [hxe] at hx ht
      have HX := hid_of ht
      have HCall := hid_of (check1_any x wr)
      clear ht hxe
      cases hb : wbad x
      · have HB := hid_of hb
        clear hb
        go_wp2_with (go_at_call 51; refine HCall.out.mono ?_; rintro e w2 ⟨rfl, hw2⟩; subst hw2; rw [HB.out])
        go_roundw
        case rel => exact ⟨k + 1, by omega, by go_num, by rw [HX.out, HB.out]; rfl, trivial⟩
        case measure => simp [intOf]; omega
      · have HB := hid_of hb
        clear hb
        go_wp2_with (go_at_call 51; refine HCall.out.mono ?_; rintro e w2 ⟨rfl, hw2⟩; subst hw2; rw [HB.out])
        go_ret
        refine ⟨⟨_, rfl, ?_⟩, rfl⟩
        rw [any_of_take (k := k + 1) (by rw [HX.out, HB.out])]
        simp
    · have hke : L.take k = L := List.take_of_length_le (by omega)
      rw [hke] at HT
      clear hke
      go_wp2_with fail
      go_ret
      refine ⟨⟨_, rfl, ?_⟩, rfl⟩
      rw [HT.out]
      rfl
set_option maxHeartbeats 1000000 in
theorem cont_any (v : Value) (L : List Int) (N : Nat) (w : World) (hL : Is N w v L) :
    Calls Try.prog 50 #[v, .func (.func 51) #[] #[]] w fun e w' => e = .returned (.bool (L.any wbad)) ∧ w' = w := by
  have HI := hid_of (idx_any v L N w hL)
  clear hL
  go_enter Try.func50, Try.ntmps50
  go_wp2_with fail
  refine HI.out.mono ?_
  rintro e w2 ⟨⟨k, rfl, hk⟩, hw⟩
  subst hw
  have HK := hid_of hk
  clear hk
  go_wp2_with fail
  go_ret
  exact ⟨ret_bool HK.out, rfl⟩
/-- right weights -/
structure Wok (L : List Int) : Prop where
  l1 : 1 ≤ L.length
  l2 : L.length ≤ 12
  ok : ∀ x ∈ L, 0 ≤ x ∧ x ≤ 100
theorem wbad_no {L : List Int} (h : L.any wbad = false) : ∀ x ∈ L, 0 ≤ x ∧ x ≤ 100 := by
  intro x hx
  have := List.any_eq_false.1 h x hx
  simp [wbad] at this
  omega
theorem wbad_of {L : List Int} (h : ∀ x ∈ L, 0 ≤ x ∧ x ≤ 100) : L.any wbad = false := by
  rw [List.any_eq_false]
  intro x hx
  have := h x hx
  simp [wbad]
  omega
theorem Wok.at {L : List Int} (h : Wok L) {k : Nat} (hk : k < L.length) : 0 ≤ L[k]?.getD 0 ∧ L[k]?.getD 0 ≤ 100 := by
  rw [List.getElem?_eq_getElem hk]
  exact h.ok _ (List.getElem_mem hk)
theorem take_sum {L : List Int} {k : Nat} (hk : k < L.length) : (L.take (k + 1)).sum = (L.take k).sum + L[k]?.getD 0 := by
  rw [List.take_succ_eq_append_getElem hk, List.sum_append, List.getElem?_eq_getElem hk]
  simp
theorem Wok.bd {L : List Int} (h : Wok L) : ∀ k, k ≤ L.length → 0 ≤ (L.take k).sum ∧ (L.take k).sum ≤ 100 * (k : Int)
  | 0, _ => by simp
  | k + 1, hk => by
    have ih := h.bd k (by omega)
    have hx := h.at (show k < L.length by omega)
    rw [take_sum (by omega)]
    push_cast
    omega
set_option maxHeartbeats 1000000 in
theorem total_any (v : Value) (L : List Int) (N : Nat) (w : World) (hL : Is N w v L) (hW : Wok L) :
    Calls Try.prog 45 #[v] w fun e w' => e = .returned (.int .i64 L.sum) ∧ w' = w := by
  have HL := hid_of hL
  have HW := hid_of hW
  obtain ⟨w1, w2, _⟩ := hW
  obtain ⟨l2, ao, cap, rfl, _⟩ := hL
  go_enter Try.func45, Try.ntmps45
  go_wp2_with fail
  go_loopw [3, 8] (fun s i w' => ∃ k : Nat, k ≤ L.length ∧ s = .int .i64 (L.take k).sum ∧ i = .int .i64 k ∧ w' = w) (fun _ i _ => L.length - (intOf i).toNat)
  case atStart => exact ⟨0, by omega, rfl, rfl, rfl⟩
  case round =>
    obtain ⟨k, hk, rfl, rfl, hw⟩ := hrel
    subst hw
    obtain ⟨q1, q2⟩ := HW.out.bd k hk
    by_cases hlt : k < L.length
    · obtain ⟨b, off, rfl, hx⟩ := HL.out.at hlt
      obtain ⟨x1, x2⟩ := HW.out.at hlt
      have HT := hid_of (take_sum hlt)
      obtain ⟨x, hxe⟩ : ∃ x, L[k]?.getD 0 = x := ⟨_, rfl⟩
      rw [hxe] at hx HT x1 x2
      clear hxe
      generalize (L.take k).sum = y at *
      go_wp2_with fail
      go_roundw
      case rel => exact ⟨k + 1, by omega, by rw [HT.out], by go_num, trivial⟩
      case measure => simp [intOf]; omega
    · have hke : L.take k = L := List.take_of_length_le (by omega)
      rw [hke]
      rw [hke] at q1 q2
      clear hke
      go_wp2_with fail
      go_ret
      exact ⟨rfl, rfl⟩
end Go.Proofs.Ytegpniiokiejhaa
