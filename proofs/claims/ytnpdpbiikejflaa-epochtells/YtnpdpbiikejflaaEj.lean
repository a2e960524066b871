/- epochBegun, run on its own numbers. -/
import Derived.Test.YtnpdpbiikejflaaEi
namespace Go.Proofs.Ytnpdpbiikejflaa
open Go.RowKit
def b1 : Nat → List Value := litR [[.int .i64 1, .int .u64 7]]
def b2 : Nat → List Value := tuG 1 b1 3
def b3 : Nat → List Value := tuG 2 b2 0
abbrev inP (n : Nat) (o : Out) : Out := .ask (n ≤ n ∧ n ≤ 140737488355328) o
set_option maxRecDepth 100000 in
theorem run_begun : evV K17 noL Try.f14 [] [] =
    inP 1 (.ask (aRow1 [.rows ekK 1 b1, .val (.int .i64 3)]) (inP 2 (.ask (aRow1 [.rows ekK 2 b2, .val (.int .i64 0)]) (inP 3 (.ask (aRow1 [.rows ekK 3 b3, .val (.int .i64 3)]) (inP 3 (.ask (aCk [.rows ekK 3 b3])
      (.ask (aRow1 [.rows ekK 0 fun _ => [], .val (.int .i64 1)]) (inP 3 (inP 3 (.ask ((0 : Int) ≤ 2 ∧ (2 : Int) < 3) (.ask (2 < 3) (.ask (aMj [.val (.agg ⟨[.int .i64 3, .int .u64 14]⟩), .val (.int .u64 6)]) (.ask ((0 : Int) ≤ 1 ∧ (1 : Int) < 2) (.ask (1 < 2) (.ask (aMj [.val (.agg ⟨[.int .i64 2, .int .u64 15]⟩), .val (.int .u64 6)])
        (.done .ret ⟨[some (.bool true)], []⟩))))))))))))))))) := by kernel_rfl
def inU (g : Nat → List Value) : Nat → Bool
  | 0 => true
  | k + 1 => inU g k && decide (0 ≤ me (g k)) && decide (me (g k) < 18446744073709551616)
theorem RU_of {g : Nat → List Value} : ∀ {m : Nat}, inU g m = true → RU m g
  | 0, _, j, hj => by omega
  | m + 1, h, j, hj => by
    unfold inU at h
    rw [Bool.and_eq_true, Bool.and_eq_true] at h
    by_cases e : j = m
    · subst e; exact ⟨of_decide_eq_true h.1.2, of_decide_eq_true h.2⟩
    · exact RU_of h.1.1 j (by omega)
def gTrue : List CA → Option Value
  | [] => some (.bool true)
  | _ => none
theorem q_begun : QOk K17.P 14 (listC [] gTrue) := list_q K17_ok Try.func14 rfl rfl (no_loops rfl) fun cas r _hb _hk h => by
  unfold gTrue at h
  split at h
  · cases h
    refine ⟨rfl, ?_⟩
    show (evV K17 noL _ [] []).sat _
    rw [run_begun]
    have r1 : RU 1 b1 := RU_of (by kernel_rfl)
    have r2 : RU 2 b2 := RU_of (by kernel_rfl)
    have r3 : RU 3 b3 := RU_of (by kernel_rfl)
    have r0 : RU 0 fun _ => [] := fun j hj => by omega
    have i : ∀ n, n ≤ 3 → n ≤ n ∧ n ≤ 140737488355328 := fun n hn => ⟨Nat.le_refl _, by omega⟩
    have u : ∀ x y : Int, U x ∧ U y → U x ∧ U y := fun _ _ h => h
    exact sat_ask (i 1 (by decide)) (sat_ask r1 (sat_ask (i 2 (by decide)) (sat_ask r2 (sat_ask (i 3 (by decide)) (sat_ask r3 (sat_ask (i 3 (by decide)) (sat_ask r3 (sat_ask r0 (sat_ask (i 3 (by decide)) (sat_ask (i 3 (by decide)) (sat_ask (by decide) (sat_ask (by decide) (sat_ask (u 14 6 ⟨⟨by decide, by decide⟩, ⟨by decide, by decide⟩⟩) (sat_ask (by decide) (sat_ask (by decide) (sat_ask (u 15 6 ⟨⟨by decide, by decide⟩, ⟨by decide, by decide⟩⟩) rfl))))))))))))))))
  · cases h
noncomputable def K18 : Kn := K17.addQ 14 (listC [] gTrue)
theorem K18_ok : K18.Ok := K17_ok.addQ q_begun
theorem K18_P : K18.P = Try.prog := rfl
end Go.Proofs.Ytnpdpbiikejflaa
