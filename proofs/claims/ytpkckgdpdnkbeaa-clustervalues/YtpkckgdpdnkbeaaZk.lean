/- Contracts for a symbolic run. -/
import Derived.Test.YtpkckgdpdnkbeaaZj
namespace Go.Proofs.Ytpkckgdpdnkbeaa
open Go.RowKit
def noL : Nat → Option LCon := fun _ => none
theorem HC.empty (w : World) : HC w.heap.size w (fun _ => none) [] w :=
  ⟨Below.refl _ _, Nat.le_refl _, fun i o h => by simp at h, (fun i l h => by cases h), (fun i b s z h => by cases h), (fun i j o1 b s z c s' z' o h => by simp at h)⟩
theorem clean_RL {ρ : Ren} {args us : List Value} (h : allB clean args = true) : RL ρ args us ↔ us = args := RL_clean (fun _ _ hv => clean_Rn hv) h
/-- what a function of plain values answers -/
def pureC (G : List Value → Option Value) : QCon := fun args _ k => match G args with | some r => k r | none => .bad
theorem pure_ok {P : Program} {f : FuncId} {G : List Value → Option Value} (he : ∀ args w, (callFunc f args).run P w = .ok (.enter f args) w)
    (hG : ∀ args r, G args = some r → allB clean args = true ∧ clean r = true ∧ ∀ w, Calls P f ⟨args⟩ w fun e w' => e = .returned r ∧ Below w.heap.size w w') : QOk P f (pureC G) := by
  refine ⟨he, fun args H k Φ h => ?_, fun Φ args H k h base w0 ρ w us hc hr => ?_⟩
  · unfold pureC at h
    split at h
    · rename_i r hg
      exact ⟨r, h, fun k' Φ' h' => by unfold pureC; rw [hg]; exact h'⟩
    · exact h.elim
  unfold pureC at h
  split at h
  · rename_i r hg
    obtain ⟨h1, h2, h3⟩ := hG args r hg
    have := (clean_RL h1).1 hr
    subst this
    exact ⟨r, r, h, (clean_Rn h2).2 rfl, fun w' _ => h3 w'⟩
  · exact h.elim
/-- A function of plain values, by its run. -/
theorem call_pure {Kn : Kn} (hK : Kn.Ok) {L : Nat → Option LCon} {f : FuncId} {fn : Func} (hf : Kn.P.funcs[f]? = some fn) (hL : ∀ c, fn.body = some c → ∀ c' ∈ loops c, ∀ F, L (key c') = some F → LOk Kn.P c' F)
    {args : List Value} {r : Value} (h1 : allB clean args = true) (h2 : clean r = true) (h : (evFn Kn L fn args []).sat fun _ S => S.slots = [some r]) (w : World) : Calls Kn.P f ⟨args⟩ w fun e w' => e = .returned r ∧ Below w.heap.size w w' := by
  refine evFn_ok hK hf hL h (HC.empty w) ((clean_RL h1).2 rfl) fun v H' ρ' w' u e hc' _ hr => ⟨?_, hc'.below⟩
  have e' : [some v] = [some r] := e
  cases e'
  rw [(clean_Rn h2).1 hr]
theorem no_loops {P : Program} {fn : Func} (h : (fn.body.map loops) = some []) {L : Nat → Option LCon} : ∀ c, fn.body = some c → ∀ c' ∈ loops c, ∀ F, L (key c') = some F → LOk P c' F := fun c hc c' hc' => by
  rw [hc] at h
  simp only [Option.map_some, Option.some.injEq] at h
  rw [h] at hc'
  cases hc'
theorem sat_tst {Φ : Lf} {b : Bool} {t f : Out} (h1 : b = true → t.sat Φ) (h2 : b = false → f.sat Φ) : (tst b t f).sat Φ := by
  cases b
  · exact h2 rfl
  · exact h1 rfl
theorem sat_t {Φ : Lf} {b : Bool} {t f : Out} (hb : b = true) (h : t.sat Φ) : (tst b t f).sat Φ := by subst hb; exact h
theorem sat_f {Φ : Lf} {b : Bool} {t f : Out} (hb : b = false) (h : f.sat Φ) : (tst b t f).sat Φ := by subst hb; exact h
theorem enter_ok {P : Program} {f : FuncId} {fn : Func} (hf : P.funcs[f]? = some fn) (h1 : (fn.name == "runtime.NumGoroutine") = false) (h2 : fn.body.isNone = false) : ∀ args w, (callFunc f args).run P w = .ok (.enter f args) w := fun args w => by
  have hp : (program).run P w = .ok P w := rfl
  unfold callFunc
  rw [Sem.run_bind, hp]
  simp only [Result.andThen_ok, hf, h1, h2]
  rfl
end Go.Proofs.Ytpkckgdpdnkbeaa
