/- What quorum.Check answers. -/
import Derived.Test.YtegpniiokiejhaaQa
namespace Go.Proofs.Ytegpniiokiejhaa
open Go.ChangeShapes Go.WideShapes Go.ChangeAt Go.RowKit Go.Shelf
/-- what is wrong with weights -/
def qce (L : List Int) : Int := if L.length = 0 then 8 else if 12 < L.length then 2 else if L.any wbad = true then 3 else 0
theorem qce_ok {L : List Int} (h : qce L = 0) : Wok L := by
  unfold qce at h
  split at h
  · omega
  · split at h
    · omega
    · split at h
      · omega
      · rename_i a b c
        exact ⟨by omega, by omega, wbad_no (by simpa using c)⟩
theorem qce_of {L : List Int} (h : Wok L) : qce L = 0 := by
  unfold qce
  rw [if_neg (by have := h.l1; omega), if_neg (by have := h.l2; omega), if_neg (by rw [wbad_of h.ok]; simp)]
/-- an error of the weights, or what else is said -/
def qcs (e r : Int) : Int := if e = 0 then r else e
set_option maxHeartbeats 1000000 in
theorem chk_any (v : Value) (L : List Int) (c : Nat) (lb : Array Value) (r : Int) (w : World) (hL : Is w.heap.size w v L) (hcf : ∀ (args : Array Value) (W : World), (callFunc c args).run Try.prog W = .ok (.enter c args) W)
    (hS : qce L = 0 → ∀ W, Below w.heap.size w W → Calls Try.prog c (#[.int .i64 L.sum] ++ lb) W fun e W' => e = .returned (.int .i64 r) ∧ Below W.heap.size W W') :
    Calls Try.prog 42 #[v, .func (.func c) #[] lb] w fun e w' => e = .returned (.int .i64 (qcs (qce L) r)) ∧ Below w.heap.size w w' := by
  have HS := hid_of hS
  have HL := hid_of hL
  have hl2 := hL.1
  obtain ⟨a, cc, rfl⟩ := hL.shape
  clear hS hL
  by_cases c1 : L.length = 0
  · have HE : Hid (qcs (qce L) r = 8) := hid_of (by unfold qcs qce; rw [if_pos c1]; rfl)
    rw [c1]
    go_enter Try.func42, Try.ntmps42
    go_wp2_with fail
    go_ret
    exact ⟨ret_int HE.out.symm, Below.refl _ _⟩
  have t1 : ((L.length : Int) == 0) = false := beq_eq_false_iff_ne.2 (by omega)
  by_cases c2 : 12 < L.length
  · have HE : Hid (qcs (qce L) r = 2) := hid_of (by unfold qcs qce; rw [if_neg c1, if_pos c2]; rfl)
    go_enter Try.func42, Try.ntmps42
    go_wp2_with fail
    go_ret
    exact ⟨ret_int HE.out.symm, Below.refl _ _⟩
  have t2 : ¬ (12 < (L.length : Int)) := by omega
  cases c3 : L.any wbad
  · have h0 : qce L = 0 := by unfold qce; rw [if_neg c1, if_neg c2, c3]; rfl
    have HE : Hid (qcs (qce L) r = r) := hid_of (by unfold qcs; rw [if_pos h0])
    have HK := hid_of (qce_ok h0)
    have HS2 := hid_of (HS.out h0 w (Below.refl _ _))
    clear HS c1 h0
    go_enter Try.func42, Try.ntmps42
    go_wp2_with fail
    refine (cont_any _ L _ _ HL.out).mono ?_
    rintro e w1 ⟨rfl, hw⟩
    subst hw
    rw [c3]
    go_wp2_with fail
    refine (total_any _ L _ _ HL.out HK.out).mono ?_
    rintro e w1 ⟨rfl, hw⟩
    subst hw
    go_wp2_with fail
    refine HS2.out.mono ?_
    rintro e w2 ⟨rfl, h2⟩
    go_wp2_with fail
    go_ret
    exact ⟨ret_int HE.out.symm, h2⟩
  · have HE : Hid (qcs (qce L) r = 3) := hid_of (by unfold qcs qce; rw [if_neg c1, if_neg c2, if_pos c3]; rfl)
    go_enter Try.func42, Try.ntmps42
    go_wp2_with fail
    refine (cont_any _ L _ _ HL.out).mono ?_
    rintro e w1 ⟨rfl, hw⟩
    subst hw
    rw [c3]
    go_wp2_with fail
    go_ret
    exact ⟨ret_int HE.out.symm, Below.refl _ _⟩
/-- block b is a box that holds a number -/
def Bi (w : World) (b : Nat) (n : Int) : Prop := w.heap[b]? = some (.cells #[.int .i64 n] 3)
theorem Bi.below {w w' : World} {b : Nat} {n : Int} (h : Bi w b n) (hb : Below w.heap.size w w') : Bi w' b n := (hb.block b (heap_lt h)).trans h
theorem Bi.cell {w : World} {b : Nat} {n : Int} (h : Bi w b n) : w.cell? ⟨b, 0, none⟩ = some (.int .i64 n) := by
  unfold Bi at h
  simp [World.cell?, h]
/-- what is wrong with what is needed -/
def qck (need all : Int) : Int := if need < 1 ∨ all < need then 3 else if 2 * need ≤ all then 4 else 0
set_option maxHeartbeats 1000000 in
theorem Check1_any (need all : Int) (b : Nat) (w : World) (h1 : 0 ≤ all) (h2 : all ≤ 1200) (hb : Bi w b need) :
    Calls Try.prog 49 #[.int .i64 all, .pointer (some ⟨b, 0, none⟩)] w fun e w' => e = .returned (.int .i64 (qck need all)) ∧ Below w.heap.size w w' := by
  have k := hb.cell
  clear hb
  by_cases c1 : need < 1
  · have HE : Hid (qck need all = 3) := hid_of (by unfold qck; rw [if_pos (.inl c1)])
    go_enter Try.func49, Try.ntmps49
    go_wp2_with fail
    go_ret
    exact ⟨ret_int HE.out.symm, Below.refl _ _⟩
  by_cases c2 : all < need
  · have HE : Hid (qck need all = 3) := hid_of (by unfold qck; rw [if_pos (.inr c2)])
    go_enter Try.func49, Try.ntmps49
    go_wp2_with fail
    go_ret
    exact ⟨ret_int HE.out.symm, Below.refl _ _⟩
  by_cases c3 : 2 * need ≤ all
  · have HE : Hid (qck need all = 4) := hid_of (by unfold qck; rw [if_neg (by omega), if_pos c3])
    go_enter Try.func49, Try.ntmps49
    go_wp2_with fail
    go_ret
    exact ⟨ret_int HE.out.symm, Below.refl _ _⟩
  · have HE : Hid (qck need all = 0) := hid_of (by unfold qck; rw [if_neg (by omega), if_neg c3])
    go_enter Try.func49, Try.ntmps49
    go_wp2_with fail
    go_ret
    exact ⟨ret_int HE.out.symm, Below.refl _ _⟩
theorem cf49 : ∀ (args : Array Value) (W : World), (callFunc 49 args).run Try.prog W = .ok (.enter 49 args) W := fun _ _ => rfl
/-- Check's answer -/
def qk (L : List Int) (need : Int) : Int := qcs (qce L) (qck need L.sum)
theorem Wok.sum {L : List Int} (h : Wok L) : 0 ≤ L.sum ∧ L.sum ≤ 1200 := by
  have := h.bd L.length (Nat.le_refl _)
  rw [List.take_length] at this
  have := h.l2
  omega
/-- right weights and a right need -/
structure Qok (L : List Int) (need : Int) : Prop where
  w : Wok L
  n1 : 1 ≤ need
  n2 : need ≤ L.sum
  n3 : L.sum < 2 * need
theorem qk_zero {L : List Int} {need : Int} (h : qk L need = 0) : Qok L need := by
  unfold qk qcs at h
  split at h
  · rename_i c
    unfold qck at h
    split at h
    · omega
    · split at h
      · omega
      · exact ⟨qce_ok c, by omega, by omega, by omega⟩
  · omega
theorem qk_of {L : List Int} {need : Int} (h : Qok L need) : qk L need = 0 := by
  unfold qk qcs
  rw [if_pos (qce_of h.w)]
  unfold qck
  rw [if_neg (by have := h.n1; have := h.n2; omega), if_neg (by have := h.n3; omega)]
set_option maxHeartbeats 1000000 in
theorem Check_any (v : Value) (L : List Int) (need : Int) (w : World) (hL : Is w.heap.size w v L) :
    Calls Try.prog 30 #[v, .int .i64 need] w fun e w' => e = .returned (.int .i64 (qk L need)) ∧ Below w.heap.size w w' := by
  have HL := hid_of hL
  have HQ : Hid (qcs (qce L) (qck need L.sum) = qk L need) := rfl
  have b0 := hid_of (below_new w (.cells #[.int .i64 need] 3))
  have b1 := hid_of (show Bi _ _ _ from heap_new w (.cells #[.int .i64 need] 3))
  go_enter Try.func30, Try.ntmps30
  go_wp2_with fail
  generalize w.alloc (.cells #[.int .i64 need] 3) = W at *
  refine (chk_any v L 49 #[.pointer (some ⟨w.heap.size, 0, none⟩)] (qck need L.sum) _ ((HL.out.below b0.out).mono b0.out.size) cf49 (fun h0 W' hW => Check1_any need L.sum _ W' (qce_ok h0).sum.1 (qce_ok h0).sum.2 (b1.out.below hW))).mono ?_
  rintro e w1 ⟨rfl, h1⟩
  rw [HQ.out]
  go_wp2_with fail
  go_ret
  exact ⟨rfl, b0.out.trans (h1.mono b0.out.size)⟩
end Go.Proofs.Ytegpniiokiejhaa
