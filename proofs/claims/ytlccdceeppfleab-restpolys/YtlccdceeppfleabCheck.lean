/- What poly.check answers: whether one of the lists that are handed in is longer than 64. -/
import Derived.Test.YtlccdceeppfleabTrim
namespace Go.Proofs.Ytlccdceeppfleab
open Go.ChangeShapes Go.WideShapes Go.ChangeAt Go.RowKit Go.Shelf
/-- is one of these lengths beyond 64? -/
def longs (ls : List Nat) : Bool := ls.any fun n => decide (64 < n)
theorem longs_take {ls : List Nat} {k : Nat} (hk : k < ls.length) : longs (ls.take (k + 1)) = (longs (ls.take k) || decide (64 < ls[k])) := by
  unfold longs
  rw [List.take_succ_eq_append_getElem hk, List.any_append]
  simp
theorem longs_of_take {ls : List Nat} {k : Nat} (h : longs (ls.take k) = true) : longs ls = true := by
  unfold longs at h ⊢
  rw [List.any_eq_true] at h ⊢
  obtain ⟨x, hx, hp⟩ := h
  exact ⟨x, List.mem_of_mem_take hx, hp⟩
set_option maxRecDepth 100000 in
set_option maxHeartbeats 1000000 in
theorem index_any (B m cap : Nat) (ls : List Nat) (w : World) (hm : m = ls.length) (hm2 : m ≤ 1000) (hls : ∀ n ∈ ls, n ≤ 140737488351232) (hc : ∀ j (h : j < ls.length), ∃ ao c, w.cell? ⟨B, j, none⟩ = some (.slice ao ls[j] c)) :
    Calls Try.prog 27 #[.slice (some ⟨B, 0, none⟩) m cap, .func (.func 24) #[] #[]] w fun e w' => ∃ k : Int, e = .returned (.int .i64 k) ∧ (decide (0 ≤ k) = longs ls) ∧ w' = w := by
  have HC : Hid (∀ j (h : j < ls.length), ∃ ao c, w.cell? ⟨B, j, none⟩ = some (.slice ao ls[j] c)) := hc
  have HL : Hid (∀ n ∈ ls, n ≤ 140737488351232) := hls
  have HM : Hid (m = ls.length) := hm
  clear hc hls hm
  go_enter Try.func27, Try.ntmps27
  go_wp2_with fail
  go_loop [8] (fun i => ∃ k : Nat, k ≤ m ∧ i = .int .i64 k ∧ Hid (longs (ls.take k) = false)) (fun i => m - (intOf i).toNat)
  case atStart => exact ⟨0, by omega, rfl, rfl⟩
  case round =>
    obtain ⟨k, hk, rfl, H⟩ := hrel
    by_cases hlt : k < m
    · obtain ⟨ao, c, hcell⟩ := HC.out k (by have := HM.out; omega)
      have hn := HL.out ls[k] (List.getElem_mem _)
      have ht := longs_take (ls := ls) (k := k) (by have := HM.out; omega)
      rw [H.out, Bool.false_or] at ht
      have HT : Hid (longs (ls.take (k + 1)) = decide (64 < ls[k]'(by have := HM.out; omega))) := ht
      clear ht
      generalize ls[k]'(by have := HM.out; omega) = n at *
      by_cases hn64 : 64 < n
      · go_wp2
        go_ret
        refine ⟨k, rfl, ?_, rfl⟩
        have e := HT.out
        rw [decide_eq_true hn64] at e
        rw [longs_of_take e]
        simp
      · go_wp2
        go_round
        case rel => exact ⟨k + 1, by omega, by go_num, by show longs (ls.take (k + 1)) = false; rw [HT.out, decide_eq_false hn64]⟩
        case measure => simp [intOf]; omega
    · go_wp2
      go_ret
      refine ⟨-1, rfl, ?_, rfl⟩
      have e := H.out
      rw [List.take_of_length_le (by have := HM.out; omega)] at e
      rw [e]; rfl
theorem ret_bool {a b : Bool} (h : a = b) : Ending.returned (.bool a) = .returned (.bool b) := by rw [h]
theorem contains_any (B m cap : Nat) (ls : List Nat) (w : World) (hm : m = ls.length) (hm2 : m ≤ 1000) (hls : ∀ n ∈ ls, n ≤ 140737488351232) (hc : ∀ j (h : j < ls.length), ∃ ao c, w.cell? ⟨B, j, none⟩ = some (.slice ao ls[j] c)) :
    Calls Try.prog 25 #[.slice (some ⟨B, 0, none⟩) m cap, .func (.func 24) #[] #[]] w fun e w' => e = .returned (.bool (longs ls)) ∧ w' = w := by
  have HX := index_any B m cap ls w hm hm2 hls hc
  have HX' : Hid (Calls Try.prog 27 #[.slice (some ⟨B, 0, none⟩) m cap, .func (.func 24) #[] #[]] w fun e w' => ∃ k : Int, e = .returned (.int .i64 k) ∧ (decide (0 ≤ k) = longs ls) ∧ w' = w) := HX
  clear HX hc hls hm
  go_enter Try.func25, Try.ntmps25
  go_wp2_with fail
  refine HX'.out.mono ?_
  rintro e w1 ⟨k, rfl, hk, rfl⟩
  have HK : Hid (decide (0 ≤ k) = longs ls) := hk
  clear hk HX'
  go_wp2_with fail
  go_ret
  exact ⟨ret_bool HK.out, rfl⟩
theorem check_any (B m cap : Nat) (ls : List Nat) (w : World) (hm : m = ls.length) (hm2 : m ≤ 1000) (hls : ∀ n ∈ ls, n ≤ 140737488351232) (hc : ∀ j (h : j < ls.length), ∃ ao c, w.cell? ⟨B, j, none⟩ = some (.slice ao ls[j] c)) :
    Calls Try.prog 18 #[.slice (some ⟨B, 0, none⟩) m cap] w fun e w' => e = .returned (.int .i64 (if longs ls then 2 else 0)) ∧ w' = w := by
  have HX := contains_any B m cap ls w hm hm2 hls hc
  generalize longs ls = lo at *
  have HX' : Hid (Calls Try.prog 25 #[.slice (some ⟨B, 0, none⟩) m cap, .func (.func 24) #[] #[]] w fun e w' => e = .returned (.bool lo) ∧ w' = w) := HX
  clear HX hc hls hm
  cases lo
  · show Calls Try.prog 18 #[.slice (some ⟨B, 0, none⟩) m cap] w fun e w' => e = .returned (.int .i64 0) ∧ w' = w
    go_enter Try.func18, Try.ntmps18
    go_wp2_with fail
    refine HX'.out.mono ?_
    rintro e w1 ⟨rfl, rfl⟩
    clear HX'
    go_wp2_with fail
    go_ret
    exact ⟨rfl, rfl⟩
  · show Calls Try.prog 18 #[.slice (some ⟨B, 0, none⟩) m cap] w fun e w' => e = .returned (.int .i64 2) ∧ w' = w
    go_enter Try.func18, Try.ntmps18
    go_wp2_with fail
    refine HX'.out.mono ?_
    rintro e w1 ⟨rfl, rfl⟩
    clear HX'
    go_wp2_with fail
    go_ret
    exact ⟨rfl, rfl⟩
theorem longs_two (a b : Nat) : longs [a, b] = (decide (64 < a) || decide (64 < b)) := by simp [longs]
theorem longs_one (a : Nat) : longs [a] = decide (64 < a) := by simp [longs]
end Go.Proofs.Ytlccdceeppfleab
