/- What matrix.Rows answers of a matrix that Check lets through. -/
import Derived.Test.YtjpibfnkchbglabClos
namespace Go.Proofs.Ytjpibfnkchbglab
open Go.ChangeShapes Go.WideShapes Go.ChangeAt Go.RowKit Go.Shelf
/-- The slice value v holds the numbers L; n: all its memory lies below block n. -/
def Is (n : Nat) (w : World) (v : Value) (L : List Int) : Prop :=
  L.length ≤ 140737488351232 ∧ ∃ ao cap, v = .slice ao L.length cap ∧ L.length ≤ cap ∧
    (L = [] ∨ ∃ b off, ao = some ⟨b, off, none⟩ ∧ b < n ∧ ∀ j, j < L.length → w.cell? ⟨b, off + j, none⟩ = some (.int .i64 (L[j]?.getD 0)))
theorem Is.below {n : Nat} {w w' : World} {v : Value} {L : List Int} (h : Is n w v L) (hb : Below n w w') : Is n w' v L := by
  obtain ⟨h2, ao, cap, h3, h4, h6⟩ := h
  refine ⟨h2, ao, cap, h3, h4, ?_⟩
  rcases h6 with h6 | ⟨b, off, h7, h8, h9⟩
  · exact .inl h6
  · exact .inr ⟨b, off, h7, h8, fun j hj => (hb.cell (p := ⟨b, off + j, none⟩) h8).trans (h9 j hj)⟩
theorem Is.mono {n m : Nat} {w : World} {v : Value} {L : List Int} (h : Is n w v L) (hm : n ≤ m) : Is m w v L := by
  obtain ⟨h2, ao, cap, h3, h4, h6⟩ := h
  refine ⟨h2, ao, cap, h3, h4, ?_⟩
  rcases h6 with h6 | ⟨b, off, h7, h8, h9⟩
  · exact .inl h6
  · exact .inr ⟨b, off, h7, by omega, h9⟩
theorem Is.shape {n : Nat} {w : World} {v : Value} {L : List Int} (h : Is n w v L) : ∃ a c, v = .slice a L.length c := by
  obtain ⟨_, a, c, h, _⟩ := h
  exact ⟨a, c, h⟩
theorem Is.at {n l c : Nat} {w : World} {a : Option Addr} {L : List Int} (h : Is n w (.slice a l c) L) {j : Nat} (hj : j < L.length) : ∃ b off, a = some ⟨b, off, none⟩ ∧ w.cell? ⟨b, off + j, none⟩ = some (.int .i64 (L[j]?.getD 0)) := by
  obtain ⟨_, a', c', h, _, h6⟩ := h
  injection h with h _ _
  subst h
  rcases h6 with h | ⟨b, off, e, _, hc⟩
  · rw [h] at hj; simp at hj
  · exact ⟨b, off, e, hc j hj⟩
/-- no row's place -/
def bad (n : Nat) (x : Int) : Bool := decide (x < 0) || decide ((n : Int) ≤ x)
set_option maxRecDepth 100000 in
set_option maxHeartbeats 1000000 in
theorem rows1_any (ba n : Nat) (x : Int) (a : Option Addr) (ca : Nat) (W : World) (hc : W.cell? ⟨ba, 0, none⟩ = some (.slice a n ca)) :
    Calls Try.prog 35 #[.int .i64 x, .pointer (some ⟨ba, 0, none⟩)] W fun e w' => e = .returned (.bool (bad n x)) ∧ w' = W := by
  by_cases h : x < 0
  · have z : decide (x < 0) = true := decide_eq_true h
    have HE : Hid (bad n x = true) := by show bad n x = true; unfold bad; rw [z]; rfl
    go_enter Try.func35, Try.ntmps35
    go_wp2_with fail
    go_ret
    exact ⟨ret_bool HE.out.symm, rfl⟩
  · have z : decide (x < 0) = false := decide_eq_false h
    have HE : Hid (bad n x = decide ((n : Int) ≤ x)) := by show bad n x = _; unfold bad; rw [z]; rfl
    go_enter Try.func35, Try.ntmps35
    go_wp2_with fail
    go_ret
    exact ⟨ret_bool HE.out.symm, rfl⟩
theorem any_take {n : Nat} {L : List Int} {k : Nat} (hk : k < L.length) : (L.take (k + 1)).any (bad n) = ((L.take k).any (bad n) || bad n (L[k]?.getD 0)) := by
  rw [List.take_succ_eq_append_getElem hk, List.any_append, List.getElem?_eq_getElem hk]
  simp
theorem any_of_take {n : Nat} {L : List Int} {k : Nat} (h : (L.take k).any (bad n) = true) : L.any (bad n) = true := by
  rw [List.any_eq_true] at h ⊢
  obtain ⟨x, hx, hb⟩ := h
  exact ⟨x, List.mem_of_mem_take hx, hb⟩
set_option maxRecDepth 100000 in
set_option maxHeartbeats 1000000 in
theorem idxI_any (v : Value) (L : List Int) (N n ba ca : Nat) (a : Option Addr) (w : World) (hL : Is N w v L) (hc : w.cell? ⟨ba, 0, none⟩ = some (.slice a n ca)) :
    Calls Try.prog 64 #[v, .func (.func 35) #[] #[.pointer (some ⟨ba, 0, none⟩)]] w fun e w' => (∃ k : Int, e = .returned (.int .i64 k) ∧ decide (0 ≤ k) = L.any (bad n)) ∧ w' = w := by
  have HL := hid_of hL
  have HC := hid_of hc
  obtain ⟨l2, ao, cap, rfl, _⟩ := hL
  clear hc
  go_enter Try.func64, Try.ntmps64
  go_wp2_with fail
  go_loopw [8] (fun i w' => ∃ k : Nat, k ≤ L.length ∧ i = .int .i64 k ∧ Hid ((L.take k).any (bad n) = false) ∧ w' = w) (fun i _ => L.length - (intOf i).toNat)
  case atStart => exact ⟨0, by omega, rfl, rfl, rfl⟩
  case round =>
    obtain ⟨k, hk, rfl, HT, hw⟩ := hrel
    subst hw
    by_cases hlt : k < L.length
    · obtain ⟨b, off, rfl, hx⟩ := HL.out.at hlt
      have ht := any_take (n := n) hlt
      rw [HT.out, Bool.false_or] at ht
      obtain ⟨x, hxe⟩ : ∃ x, L[k]?.getD 0 = x := ⟨_, rfl⟩
      rw [hxe] at hx ht
      have HX := hid_of ht
      have HCall := hid_of (rows1_any ba n x a ca wr HC.out)
      clear ht hxe
      cases hb : bad n x
      · have HB := hid_of hb
        clear hb
        go_wp2_with (go_at_call 35; refine HCall.out.mono ?_; rintro e w2 ⟨rfl, hw2⟩; subst hw2; rw [HB.out])
        go_roundw
        case rel => exact ⟨k + 1, by omega, by go_num, by rw [HX.out, HB.out]; rfl, trivial⟩
        case measure => simp [intOf]; omega
      · have HB := hid_of hb
        clear hb
        go_wp2_with (go_at_call 35; refine HCall.out.mono ?_; rintro e w2 ⟨rfl, hw2⟩; subst hw2; rw [HB.out])
        go_ret
        refine ⟨⟨_, rfl, ?_⟩, rfl⟩
        rw [any_of_take (k := k + 1) (by rw [HX.out, HB.out])]
        simp
    · have hke : L.take k = L := List.take_of_length_le (by omega)
      rw [hke] at HT
      clear hke
      go_wp2_with fail
      go_ret
      refine ⟨⟨_, rfl, ?_⟩, rfl⟩
      rw [HT.out]
      rfl
set_option maxRecDepth 100000 in
set_option maxHeartbeats 1000000 in
theorem cont_any (v : Value) (L : List Int) (N n ba ca : Nat) (a : Option Addr) (w : World) (hL : Is N w v L) (hc : w.cell? ⟨ba, 0, none⟩ = some (.slice a n ca)) :
    Calls Try.prog 34 #[v, .func (.func 35) #[] #[.pointer (some ⟨ba, 0, none⟩)]] w fun e w' => e = .returned (.bool (L.any (bad n))) ∧ w' = w := by
  have HI := hid_of (idxI_any v L N n ba ca a w hL hc)
  clear hL hc
  go_enter Try.func34, Try.ntmps34
  go_wp2_with fail
  refine HI.out.mono ?_
  rintro e w2 ⟨⟨k, rfl, hk⟩, hw⟩
  subst hw
  have HK := hid_of hk
  clear hk
  go_wp2_with fail
  go_ret
  exact ⟨ret_bool HK.out, rfl⟩
set_option maxRecDepth 100000 in
set_option maxHeartbeats 1000000 in
theorem rows2_any (ba bi : Nat) (va vi : Value) (A : List (List Nat)) (L : List Int) (n c : Nat) (N : Nat) (W : World) (ca : W.cell? ⟨ba, 0, none⟩ = some va) (ci : W.cell? ⟨bi, 0, none⟩ = some vi) (hA : Mx N W va A) (hL : Is N W vi L) (rA : Rect A n c) (i k : Nat) (hi : i < L.length) (h0 : 0 ≤ L[i]?.getD 0) (h1 : L[i]?.getD 0 < n) (hk : k < c) :
    Calls Try.prog 36 #[.int .i64 (i : Nat), .int .i64 (k : Nat), .pointer (some ⟨ba, 0, none⟩), .pointer (some ⟨bi, 0, none⟩)] W fun e w' => e = .returned (.int .u8 (ent A (L[i]?.getD 0).toNat k : Nat)) ∧ Below W.heap.size W w' := by
  obtain ⟨m, hm⟩ := Int.eq_ofNat_of_zero_le h0
  have hl := hL.1
  obtain ⟨a', c', rfl⟩ := hL.shape
  obtain ⟨b3, o3, rfl, hz⟩ := hL.at hi
  rw [hm] at h1 hz ⊢
  rw [Int.toNat_natCast]
  have hmn : m < n := by omega
  obtain ⟨b, o, c1, b2, o2, k2, rfl, hx, hy, _⟩ := hA.byte rA hmn hk
  have c16 := rA.c16
  have n16 := rA.n16
  have q1 : (m : Int) < (n : Int) := by omega
  have q2 : (i : Int) < (L.length : Int) := by omega
  have q3 : (k : Int) < (c : Int) := by omega
  clear hA hL rA hm h0
  go_enter Try.func36, Try.ntmps36
  go_wp2_with fail
  go_quiet (fail)
  go_wp2_with fail
  go_ret
  exact ⟨rfl, below_drewN _ (Below.refl _ _)⟩
end Go.Proofs.Ytjpibfnkchbglab
