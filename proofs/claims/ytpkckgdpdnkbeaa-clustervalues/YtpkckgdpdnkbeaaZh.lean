/- A symbolic run of Go code: regions, code, functions. -/
import Derived.Test.YtpkckgdpdnkbeaaZx
namespace Go.Proofs.Ytpkckgdpdnkbeaa
open Go.RowKit
/-- what is known beforehand of functions that turn memory -/
abbrev MCon := List Value → List AObj → (Value → List AObj → Out) → Out
def MOk (P : Program) (f : FuncId) (F : MCon) : Prop :=
  (∀ args w, (callFunc f args).run P w = .ok (.enter f args) w) ∧
  ∀ Φ args H k, (F args H k).sat Φ → ∀ base w0 ρ w us, HC base w0 ρ H w → RL ρ args us → ∀ R : Ending → World → Prop,
    (∀ v H' ρ' w' u, (k v H').sat Φ → HC base w0 ρ' H' w' → RLe ρ ρ' → Rn ρ' v u → R (.returned u) w') → Calls P f ⟨us⟩ w R
structure Kn extends Env where
  M : FuncId → Option MCon
structure Kn.Ok (Kn : Kn) : Prop where
  v : Kn.toEnv.Ok
  m : ∀ f F, Kn.M f = some F → MOk Kn.P f F
  mixed : Kn.P.follows .mixedOrders = true
def mcall (F : MCon) (x : Option (List Value)) (fs cs : List Value) (d : Option Tmp) (S : ASt) (k : ASt → Out) : Out :=
  match x with
  | some vs => F (fs ++ vs ++ cs) S.heap fun v H => k (ASt.put ⟨S.slots, H⟩ d v)
  | none => .bad
def vx (Kn : Kn) (o : Oper) (S : ASt) (k : ASt → Out) : Out := vop Kn.toEnv o S fun v => k (S.put o.dst v)
/-- an operation in its own place -/
def ox (Kn : Kn) (o : Oper) (S : ASt) (k : ASt → Out) : Out :=
  match need Kn.toEnv o S with
  | 0 => rx Kn.toEnv o S S.heap.length fun r => headX r fun r => k ⟨putO S.slots o.dst r.1, effH S.heap r.2⟩
  | n + 1 => rx Kn.toEnv o ⟨S.slots, S.heap ++ goneL (n + 1)⟩ S.heap.length fun r => headX r fun r => k ⟨putO S.slots o.dst r.1, effH (S.heap ++ goneL (n + 1)) r.2⟩
/-- AN OPERATION -/
def mx (Kn : Kn) (o : Oper) (S : ASt) (k : ASt → Out) : Out :=
  match o.op with
  | .call ⟨.value f, ⟨xs⟩, _⟩ => (match fnOf (S.ev f) with
    | some (g, fs, cs) => (match Kn.M g with
      | some F => mcall F (evL S xs) fs cs o.dst S k
      | none => ox Kn o S k)
    | none => .bad)
  | .binOp op t x y _ => (match nilS Kn.P t (S.ev x) y with
    | some l => vsnil op l fun v => k ⟨putO S.slots o.dst v, S.heap⟩
    | none => ox Kn o S k)
  | _ => ox Kn o S k
def evOps (x : Oper → ASt → (ASt → Out) → Out) (ops : List Oper) : List Oper → ASt → (ASt → Out) → Out
  | [], S, k => k S
  | o :: l, S, k => gtest S ops o.guard (fun S => x o S fun S => evOps x ops l S k) (fun S => evOps x ops l (S.put o.dst undef) k)
def AE.up : AE → Exit
  | .normal => .normal
  | .exit n => .exit n
  | .ret => .ret
abbrev LCon := ASt → (AE → ASt → Out) → Out
def ctest (S : ASt) (c : Operand) (t f : ASt → Out) : Out :=
  match c with
  | .tmp i => (match nthO S.slots i with
    | some (.bool b) => tst b (t (S.put (some i) (.bool true))) (f (S.put (some i) (.bool false)))
    | _ => .bad)
  | _ => .bad
def key : Code → Nat
  | .region id _ _ => id
  | .seq a _ => key a
  | .block _ c => key c
  | _ => 0
def loops : Code → List Code
  | .seq a b => loops a ++ loops b
  | .cond _ a b => loops a ++ loops b
  | .block _ c => loops c
  | .loop c => [c]
  | _ => []
/-- does it make or turn memory? -/
def turnsH (Kn : Kn) : Op → Bool
  | .alloc _ | .box .. | .buildSlice .. | .makeSlice .. | .store .. | .makeMap .. | .insert .. => true
  | .call ⟨.builtin .append, _, _⟩ => true
  | .call ⟨.value f, _, _⟩ => (match f with
    | .func g => (match Kn.F g with | some _ => true | none => false)
    | _ => true)
  | _ => false
def allV (Kn : Kn) : List Oper → Bool
  | [] => true
  | o :: l => !(turnsH Kn o.op) && allV Kn l
/-- A RUN OF CODE -/
def ev (Kn : Kn) (L : Nat → Option LCon) : Code → ASt → (AE → ASt → Out) → Out
  | .skip, S, k => k .normal S
  | .label _, S, k => k .normal S
  | .region _ ops draw, S, k => (match draw with
    | true => (match allV Kn ops.toList && Nat.ble ops.toList.length 64 && Region.lexB .any ops with
      | true => evOps (vx Kn) ops.toList ops.toList S (k .normal)
      | false => evRegM Kn.toEnv ops.toList S (k .normal))
    | false => evOps (mx Kn) ops.toList ops.toList S (k .normal))
  | .seq a b, S, k => ev Kn L a S fun e S' => match e with
    | .normal => ev Kn L b S' k
    | .exit n => k (.exit n) S'
    | .ret => k .ret S'
  | .cond c x y, S, k => ctest S c (fun S => ev Kn L x S k) (fun S => ev Kn L y S k)
  | .block id c, S, k => ev Kn L c S fun e S' => match e with
    | .normal => k .normal S'
    | .exit n => bif Nat.beq n id then k .normal S' else k (.exit n) S'
    | .ret => k .ret S'
  | .exit id, S, k => k (.exit id) S
  | .ret, S, k => k .ret S
  | .loop c, S, k => (match L (key c) with
    | some F => F S k
    | none => .bad)
  | _, _, _ => .bad
/-- What a loop's contract says of the loop. -/
def LOk (P : Program) (c : Code) (F : LCon) : Prop :=
  ∀ Φ S k, (F S k).sat Φ → ∀ base w0 ρ a w, HC base w0 ρ S.heap w → SC ρ S.slots a → ∀ Q : Exit → Act → World → Prop,
    (∀ e S' ρ' a' w', (k e S').sat Φ → HC base w0 ρ' S'.heap w' → SC ρ' S'.slots a' → RLe ρ ρ' → Q e.up a' w') → (Code.loop c).wp P Q a w
theorem SC.same {ρ : Ren} {S : ASt} {a : Act} (h : SC ρ S.slots a) {t : Tmp} {v : Value} (hv : nthO S.slots t = some v) : SC ρ (S.put (some t) v).slots a := by
  refine ⟨h.1, by simp [ASt.put, setO_len, h.2.1], fun t' v' e => ?_⟩
  simp only [ASt.put, nthO_set] at e
  split at e
  · rename_i hc
    cases e
    rw [← hc.1]
    exact h.2.2 t v hv
  · exact h.2.2 t' v' e
theorem gtest_ok {Φ : Lf} {S : ASt} {ops : List Oper} {o : Oper} {yes no : ASt → Out} {ρ : Ren} {a : Act} (h : (gtest S ops o.guard yes no).sat Φ) (hs : SC ρ S.slots a) :
    (Region.wanted o (yielded ⟨ops⟩ a.tmps) = true ∧ ∃ S', (yes S').sat Φ ∧ SC ρ S'.slots a ∧ S'.heap = S.heap) ∨
    (Region.wanted o (yielded ⟨ops⟩ a.tmps) = false ∧ ∃ S', (no S').sat Φ ∧ SC ρ S'.slots a ∧ S'.heap = S.heap) := by
  unfold gtest at h
  split at h
  · rename_i hg
    exact .inl ⟨by simp [Region.wanted, hg], S, h, hs, rfl⟩
  · rename_i j want hg
    split at h
    · rename_i oj hj
      rw [nthL_eq] at hj
      split at h
      · rename_i t ht
        split at h
        · rename_i b hb
          obtain ⟨u, h1, h2⟩ := hs.2.2 t _ hb
          cases h2
          have hy := yielded_put hj ht h1
          have hs' := hs.same hb
          rcases tst_sat h with ⟨e, h⟩ | ⟨e, h⟩
          · subst e
            cases want
            · exact .inr ⟨by simp [Region.wanted, hg, hy], _, h, hs', rfl⟩
            · exact .inl ⟨by simp [Region.wanted, hg, hy], _, h, hs', rfl⟩
          · subst e
            cases want
            · exact .inl ⟨by simp [Region.wanted, hg, hy], _, h, hs', rfl⟩
            · exact .inr ⟨by simp [Region.wanted, hg, hy], _, h, hs', rfl⟩
        · rename_i vs hb
          obtain ⟨u, h1, h2⟩ := hs.2.2 t _ hb
          cases h2
          have hy := yielded_put hj ht h1
          exact .inr ⟨by simp [Region.wanted, hg, hy], S, h, hs, rfl⟩
        · exact h.elim
      · exact h.elim
    · exact h.elim
/-- A region that draws its order. -/
theorem quiet_ok {Kn : Kn} (hK : Kn.Ok) {Φ : Lf} {base : Nat} {w0 w : World} {ρ : Ren} {H : List AObj} (hc : HC base w0 ρ H w) {ops : List Oper} {k : ASt → Out} {Q : Act → Prop}
    (hq : ∀ S a, (k S).sat Φ → SC ρ S.slots a → S.heap = H → Q a) : ∀ (l : List Oper) (S : ASt) (a : Act), (evOps (vx Kn) ops l S k).sat Φ → SC ρ S.slots a → S.heap = H →
      wpQuiet Kn.P ⟨ops⟩ (fun w' => Below w.heap.size w w') Q l a
  | [], S, a, h, hs, hh => hq S a h hs hh
  | o :: l, S, a, h, hs, hh => by
    unfold evOps at h
    unfold wpQuiet
    rcases gtest_ok h hs with ⟨hw, S', h, hs, hh'⟩ | ⟨hw, S', h, hs, hh'⟩
    · rw [if_pos hw]
      obtain ⟨v, u, h1, h2, h3⟩ := vop_ok hK.v h hs (by rw [hh', hh]; exact hc)
      exact ⟨u, h3, quiet_ok hK hc hq l _ _ h1 (hs.put o.dst h2) (by rw [ASt.put_heap, hh', hh])⟩
    · rw [if_neg (by rw [hw]; simp)]
      exact quiet_ok hK hc hq l _ _ h (hs.put o.dst (undef_Rn ρ)) (by rw [ASt.put_heap, hh', hh])
end Go.Proofs.Ytpkckgdpdnkbeaa
