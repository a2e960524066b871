/- The reference's StampCheck, StampLess. -/
import Derived.Test.YtcplbpnpcmgjfaaSb
namespace Go.Proofs.Ytcplbpnpcmgjfaa
open Go.ChangeShapes Go.WideShapes Go.ChangeAt Go.RowKit Go.Shelf
set_option maxHeartbeats 400000 in
theorem rcheck_any (p : St) (w : World) : Calls Try.prog 15 #[sv p] w fun e w' => e = .returned (.int .i64 (sck p)) ∧ Below w.heap.size w w' := by
  obtain ⟨t, u⟩ := p
  have HN : Hid (sv (t, u) = .agg #[.int .i64 t, .int .i64 u]) := rfl
  rw [HN.out]
  by_cases c1 : t < 0
  · have HE : Hid (sck (t, u) = 3) := hid_of (if_pos (.inl c1))
    go_enter Try.func15, Try.ntmps15
    go_wp2_with fail
    go_ret
    exact ⟨ret_int HE.out.symm, below_new _ _⟩
  by_cases c2 : 1000000 < t
  · have HE : Hid (sck (t, u) = 3) := hid_of (if_pos (.inr (.inl c2)))
    go_enter Try.func15, Try.ntmps15
    go_wp2_with fail
    go_ret
    exact ⟨ret_int HE.out.symm, below_new _ _⟩
  by_cases c3 : u < 0
  · have HE : Hid (sck (t, u) = 3) := hid_of (if_pos (.inr (.inr (.inl c3))))
    go_enter Try.func15, Try.ntmps15
    go_wp2_with fail
    go_ret
    exact ⟨ret_int HE.out.symm, below_new _ _⟩
  by_cases c4 : 31 < u
  · have HE : Hid (sck (t, u) = 3) := hid_of (if_pos (.inr (.inr (.inr c4))))
    go_enter Try.func15, Try.ntmps15
    go_wp2_with fail
    go_ret
    exact ⟨ret_int HE.out.symm, below_new _ _⟩
  · have HE : Hid (sck (t, u) = 0) := hid_of (if_neg (by simp only [not_or]; exact ⟨c1, c2, c3, c4⟩))
    go_enter Try.func15, Try.ntmps15
    go_wp2_with fail
    go_ret
    exact ⟨ret_int HE.out.symm, below_new _ _⟩
set_option maxHeartbeats 400000 in
theorem rless_any (a b : St) (w : World) : Calls Try.prog 17 #[sv a, sv b] w fun e w' => e = .returned (.bool (slt a b)) ∧ Below w.heap.size w w' := by
  obtain ⟨t, u⟩ := a
  obtain ⟨s, v⟩ := b
  have HN : Hid (sv (t, u) = .agg #[.int .i64 t, .int .i64 u]) := rfl
  have HM : Hid (sv (s, v) = .agg #[.int .i64 s, .int .i64 v]) := rfl
  rw [HN.out, HM.out]
  by_cases c2 : t = s
  · have HE : Hid (slt (t, u) (s, v) = decide (u < v)) := hid_of (by unfold slt; simp only; exact decide_eq_decide.2 (by omega))
    subst c2
    go_enter Try.func17, Try.ntmps17
    go_wp2_with fail
    go_ret
    exact ⟨ret_bool (by rw [HE.out]), below_new2 _ _ _⟩
  · have z2 : (t == s) = false := beq_eq_false_iff_ne.2 c2
    have HE : Hid (slt (t, u) (s, v) = decide (t < s)) := hid_of (by unfold slt; simp only; exact decide_eq_decide.2 (by omega))
    go_enter Try.func17, Try.ntmps17
    go_wp2_with fail
    go_ret
    exact ⟨ret_bool (by rw [HE.out]), below_new2 _ _ _⟩
theorem rlessB (t u t' u' : Int) (w : World) : Calls Try.prog 17 #[.agg #[.int .i64 t, .int .i64 u], .agg #[.int .i64 t', .int .i64 u']] w fun e w' => e = .returned (.bool (slt (t, u) (t', u'))) ∧ Below w.heap.size w w' := rless_any (t, u) (t', u') w
theorem rcheckB (t u : Int) (w : World) : Calls Try.prog 15 #[.agg #[.int .i64 t, .int .i64 u]] w fun e w' => e = .returned (.int .i64 (sck (t, u))) ∧ Below w.heap.size w w' := rcheck_any (t, u) w
end Go.Proofs.Ytcplbpnpcmgjfaa
