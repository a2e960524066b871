/- What quorum.Least and quorum.Spare answer; what must be in any case is so. -/
import Derived.Test.YtegpniiokiejhaaQt
namespace Go.Proofs.Ytegpniiokiejhaa
open Go.ChangeShapes Go.WideShapes Go.ChangeAt Go.RowKit Go.Shelf
theorem Least.unique {O : List Int} {m : Int} {k l : Nat} (h : Least O m k) (h' : Least O m l) : k = l := by
  rcases Nat.lt_trichotomy k l with c | c | c
  · have := h'.2.2 k c; have := h.2.1; omega
  · exact c
  · have := h.2.2 l c; have := h'.2.1; omega
/-- what Least answers -/
def LeastIs (L : List Int) (need : Int) (k : Nat) : Prop := (qk L need = 0 → Least (srt L) need k) ∧ (qk L need ≠ 0 → k = 0)
/-- what Spare answers -/
def SpareIs (L : List Int) (need : Int) (k : Nat) : Prop := (qk L need = 0 → Least (srt L) (L.sum - need + 1) (k + 1)) ∧ (qk L need ≠ 0 → k = 0)
set_option maxHeartbeats 1000000 in
theorem Least_any (v : Value) (L : List Int) (need : Int) (w : World) (hL : Is w.heap.size w v L) :
    Calls Try.prog 23 #[v, .int .i64 need] w fun e w' => ∃ k : Nat, e = .returned (.tuple #[.int .i64 k, .int .i64 (qk L need)]) ∧ LeastIs L need k ∧ Below w.heap.size w w' := by
  have HL := hid_of hL
  have HC := hid_of (Check_any v L need w hL)
  have HQ := hid_of (@qk_zero L need)
  have HLI : Hid (∀ k, ((qk L need = 0 → Least (srt L) need k) ∧ (qk L need ≠ 0 → k = 0)) → LeastIs L need k) := hid_of fun k h => h
  generalize qk L need = x at HC HQ HLI ⊢
  clear hL
  by_cases c0 : x = 0
  · have HK := hid_of (HQ.out c0)
    subst c0
    go_enter Try.func23, Try.ntmps23
    go_wp2_with fail
    refine HC.out.mono ?_
    rintro e w1 ⟨rfl, h1⟩
    go_wp2_with fail
    refine (fewest_any v L need _ ((HL.out.below h1).mono h1.size) HK.out.w HK.out.n2).mono ?_
    rintro e w2 ⟨k, rfl, hk, h2⟩
    go_wp2_with fail
    go_ret2
    exact ⟨k, rfl, HLI.out k ⟨fun _ => hk, fun h => absurd rfl h⟩, h1.trans (h2.mono h1.size)⟩
  · have tx : (x != 0) = true := by rw [bne_iff_ne]; exact c0
    go_enter Try.func23, Try.ntmps23
    go_wp2_with fail
    refine HC.out.mono ?_
    rintro e w1 ⟨rfl, h1⟩
    go_wp2_with fail
    go_ret2
    exact ⟨0, rfl, HLI.out 0 ⟨fun h => absurd h c0, fun _ => rfl⟩, h1⟩
set_option maxHeartbeats 1000000 in
theorem Spare_any (v : Value) (L : List Int) (need : Int) (w : World) (hL : Is w.heap.size w v L) :
    Calls Try.prog 24 #[v, .int .i64 need] w fun e w' => ∃ k : Nat, e = .returned (.tuple #[.int .i64 k, .int .i64 (qk L need)]) ∧ SpareIs L need k ∧ Below w.heap.size w w' := by
  have HL := hid_of hL
  have HC := hid_of (Check_any v L need w hL)
  have HQ := hid_of (@qk_zero L need)
  have HLI : Hid (∀ k, ((qk L need = 0 → Least (srt L) (L.sum - need + 1) (k + 1)) ∧ (qk L need ≠ 0 → k = 0)) → SpareIs L need k) := hid_of fun k h => h
  generalize qk L need = x at HC HQ HLI ⊢
  clear hL
  by_cases c0 : x = 0
  · have HK := hid_of (HQ.out c0)
    obtain ⟨hW, n1, n2, n3⟩ := HK.out
    obtain ⟨s1, s2⟩ := hW.sum
    subst c0
    clear hW
    go_enter Try.func24, Try.ntmps24
    go_wp2_with fail
    refine HC.out.mono ?_
    rintro e w1 ⟨rfl, h1⟩
    go_wp2_with fail
    refine (total_any v L _ _ ((HL.out.below h1).mono h1.size) HK.out.w).mono ?_
    rintro e w3 ⟨rfl, hw⟩
    subst hw
    go_wp2_with fail
    refine (fewest_any v L (L.sum - need + 1) _ ((HL.out.below h1).mono h1.size) HK.out.w (by omega)).mono ?_
    rintro e w2 ⟨k, rfl, hk, h2⟩
    have hk0 : 1 ≤ k := by
      by_cases e : k = 0
      · have := hk.2.1
        rw [e, pre_zero] at this
        omega
      · omega
    have hk1 : k ≤ 12 := by
      have := hk.1
      rw [srt_length] at this
      have := HK.out.w.l2
      omega
    obtain ⟨j, rfl⟩ : ∃ j, k = j + 1 := ⟨k - 1, by omega⟩
    have HK2 := hid_of hk
    clear hk
    have g1 : wrap64 (((j + 1 : Nat) : Int) - 1) = (j : Int) := by rw [Go.IntWalk.wrap64_in _ (by omega)]; omega
    go_wp2_with fail
    go_ret2
    exact ⟨j, by congr 3, HLI.out j ⟨fun _ => HK2.out, fun h => absurd rfl h⟩, h1.trans (h2.mono h1.size)⟩
  · have tx : (x != 0) = true := by rw [bne_iff_ne]; exact c0
    go_enter Try.func24, Try.ntmps24
    go_wp2_with fail
    refine HC.out.mono ?_
    rintro e w1 ⟨rfl, h1⟩
    go_wp2_with fail
    go_ret2
    exact ⟨0, rfl, HLI.out 0 ⟨fun h => absurd h c0, fun _ => rfl⟩, h1⟩
theorem four_is (w : World) : Is (w.alloc (.cells #[.int .i64 3, .int .i64 1, .int .i64 1, .int .i64 2] 3)).heap.size (w.alloc (.cells #[.int .i64 3, .int .i64 1, .int .i64 1, .int .i64 2] 3)) (.slice (some ⟨w.heap.size, 0, none⟩) 4 4) [3, 1, 1, 2] := by
  have h := heap_new w (.cells #[.int .i64 3, .int .i64 1, .int .i64 1, .int .i64 2] 3)
  refine ⟨by simp, _, 4, rfl, by simp, .inr ⟨w.heap.size, 0, rfl, heap_lt h, fun j hj => ?_⟩⟩
  simp only [List.length_cons, List.length_nil] at hj
  simp only [World.cell?, h]
  match j, hj with
  | 0, _ => rfl
  | 1, _ => rfl
  | 2, _ => rfl
  | 3, _ => rfl
theorem leastB {k : Nat} (h : LeastIs [3, 1, 1, 2] 4 k) : k = 2 := by
  refine (h.1 (by decide)).unique ⟨by decide, by decide, ?_⟩
  intro i hi
  match i, hi with
  | 0, _ => decide
  | 1, _ => decide
theorem spareB {k : Nat} (h : SpareIs [3, 1, 1, 2] 4 k) : k = 1 := by
  have := (h.1 (by decide)).unique (l := 2) ⟨by decide, by decide, ?_⟩
  · omega
  intro i hi
  match i, hi with
  | 0, _ => decide
  | 1, _ => decide
set_option maxHeartbeats 1000000 in
theorem begun_any (w : World) : Calls Try.prog 29 #[] w fun e w' => e = .returned (.bool true) ∧ Below w.heap.size w w' := by
  have HI := hid_of (four_is w)
  have BB := hid_of (below_new w (.cells #[.int .i64 3, .int .i64 1, .int .i64 1, .int .i64 2] 3))
  go_enter Try.func29, Try.ntmps29
  go_wp2_with fail
  generalize w.alloc (.cells #[.int .i64 3, .int .i64 1, .int .i64 1, .int .i64 2] 3) = W at *
  refine (Sum_any _ _ 5 _ (by omega) HI.out).mono ?_
  rintro e w1 ⟨rfl, h⟩
  rw [show smV [3, 1, 1, 2] 5 = 4 from by decide, show smE [3, 1, 1, 2] 5 = 0 from by decide]
  have BB := hid_of (BB.out.trans (h.mono BB.out.size))
  have HI := hid_of ((HI.out.below h).mono h.size)
  clear h
  go_wp2_with fail
  refine (Enough_any _ _ 4 9 _ (by omega) HI.out).mono ?_
  rintro e w2 ⟨rfl, h⟩
  rw [show enB [3, 1, 1, 2] 4 9 = true from by decide, show enE [3, 1, 1, 2] 4 9 = 0 from by decide]
  have BB := hid_of (BB.out.trans (h.mono BB.out.size))
  have HI := hid_of ((HI.out.below h).mono h.size)
  clear h
  go_wp2_with fail
  refine (Least_any _ _ 4 _ HI.out).mono ?_
  rintro e w3 ⟨k, rfl, hk, h⟩
  rw [leastB hk, show qk [3, 1, 1, 2] 4 = 0 from by decide]
  have BB := hid_of (BB.out.trans (h.mono BB.out.size))
  have HI := hid_of ((HI.out.below h).mono h.size)
  clear h hk
  go_wp2_with fail
  refine (Spare_any _ _ 4 _ HI.out).mono ?_
  rintro e w4 ⟨k, rfl, hk, h⟩
  rw [spareB hk, show qk [3, 1, 1, 2] 4 = 0 from by decide]
  have BB := hid_of (BB.out.trans (h.mono BB.out.size))
  have HI := hid_of ((HI.out.below h).mono h.size)
  clear h hk
  go_wp2_with fail
  refine (Sum_any _ _ 16 _ (by omega) HI.out).mono ?_
  rintro e w5 ⟨rfl, h⟩
  rw [show smV [3, 1, 1, 2] 16 = 0 from by decide, show smE [3, 1, 1, 2] 16 = 3 from by decide]
  have BB := hid_of (BB.out.trans (h.mono BB.out.size))
  have HI := hid_of ((HI.out.below h).mono h.size)
  clear h
  go_wp2_with fail
  refine (Check_any _ _ 3 _ HI.out).mono ?_
  rintro e w6 ⟨rfl, h⟩
  rw [show qk [3, 1, 1, 2] 3 = 4 from by decide]
  have BB := hid_of (BB.out.trans (h.mono BB.out.size))
  clear h
  go_wp2_with fail
  go_ret
  exact ⟨rfl, BB.out⟩
end Go.Proofs.Ytegpniiokiejhaa
