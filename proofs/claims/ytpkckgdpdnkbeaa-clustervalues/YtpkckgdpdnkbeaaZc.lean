/- A symbolic run of Go code: filling, and what an operation that only reads yields. -/
import Derived.Test.YtpkckgdpdnkbeaaZb
namespace Go.Proofs.Ytpkckgdpdnkbeaa
open Go.RowKit
/-- cells put over cells -/
def putAt : List Value → Nat → List Value → List Value
  | cs, _, [] => cs
  | cs, off, v :: vs => putAt (setL cs off v) (off + 1) vs
def cellsL : Value → List Value
  | .agg ⟨cs⟩ => cs
  | v => [v]
def lfill (place : Nat → Option (Nat × Nat)) : List Value → List (Nat × Value) → Option (List Value)
  | cs, [] => some cs
  | cs, (i, v) :: rest => match place i with
    | none => none
    | some (off, size) => bif Nat.beq (cellsL v).length size && Nat.ble (off + (cellsL v).length) cs.length then lfill place (putAt cs off (cellsL v)) rest else none
theorem putAt_len : ∀ (cs : List Value) (off : Nat) (vs : List Value), (putAt cs off vs).length = cs.length
  | cs, _, [] => rfl
  | cs, off, v :: vs => by simp [putAt, putAt_len, setL_eq]
theorem foldl_putAt : ∀ (vs cs : List Value) (off n : Nat), ((vs.zipIdx n).foldl (fun (a : Array Value) (p : Value × Nat) => a.setIfInBounds (off + p.2) p.1) ⟨cs⟩) = ⟨putAt cs (off + n) vs⟩
  | [], cs, off, n => by simp [putAt]
  | v :: vs, cs, off, n => by
    have ih := foldl_putAt vs (cs.set (off + n) v) off (n + 1)
    simp only [List.zipIdx_cons, List.foldl_cons, putAt, setL_eq]
    rw [show off + n + 1 = off + (n + 1) by omega, ← ih]
    simp
theorem cellsL_eq (v : Value) : v.cells = ⟨cellsL v⟩ := by
  cases v <;> rfl
theorem fill_eq (place : Nat → Option (Nat × Nat)) : ∀ (parts : List (Nat × Value)) (cs : List Value), Instr.fill place ⟨cs⟩ parts = (lfill place cs parts).map (fun l => ⟨l⟩)
  | [], cs => rfl
  | (i, v) :: rest, cs => by
    unfold Instr.fill lfill
    cases place i with
    | none => rfl
    | some p =>
      obtain ⟨off, size⟩ := p
      simp only [cellsL_eq]
      by_cases h : (cellsL v).length = size ∧ off + (cellsL v).length ≤ cs.length
      · have h1 : (Nat.beq (cellsL v).length size && Nat.ble (off + (cellsL v).length) cs.length) = true := by
          rw [Bool.and_eq_true]; exact ⟨by rw [Nat.beq_eq]; exact h.1, by rw [Nat.ble_eq]; exact h.2⟩
        rw [h1]
        have h2 := foldl_putAt (cellsL v) cs off 0
        simp only [cond_true]
        rw [if_neg (by simp [h.1]; omega), ← fill_eq place rest]
        congr 1
        rw [Nat.add_zero] at h2
        rw [← h2]
        simp
      · have h1 : (Nat.beq (cellsL v).length size && Nat.ble (off + (cellsL v).length) cs.length) = false := by
          rw [Bool.and_eq_false_iff]
          by_cases h3 : (cellsL v).length = size
          · exact .inr (by cases hb : Nat.ble (off + (cellsL v).length) cs.length; rfl; exact absurd ⟨h3, by rw [Nat.ble_eq] at hb; exact hb⟩ h)
          · exact .inl (by cases hb : Nat.beq (cellsL v).length size; rfl; exact absurd (by rw [Nat.beq_eq] at hb; exact hb) h3)
        rw [h1]
        simp only [cond_false, Option.map_none]
        rw [if_pos]
        simp only [List.size_toArray, ne_eq, decide_not, Bool.or_eq_true, Bool.not_eq_eq_eq_not, Bool.not_true, decide_eq_false_iff_not, decide_eq_true_eq]
        by_cases h3 : (cellsL v).length = size
        · exact .inr (by have := fun h4 => h ⟨h3, h4⟩; omega)
        · exact .inl h3
theorem RL.putAt {ρ : Ren} : ∀ {vs us : List Value} {cs ds : List Value} (off : Nat), RL ρ vs us → RL ρ cs ds → RL ρ (putAt cs off vs) (Go.Proofs.Ytpkckgdpdnkbeaa.putAt ds off us)
  | [], us, cs, ds, off, h, k => by have := h.nil_inv; subst this; exact k
  | v :: vs, us, cs, ds, off, h, k => by
    obtain ⟨u, us', rfl, h1, h2⟩ := h.cons_inv
    exact RL.putAt (off + 1) h2 (by rw [setL_eq, setL_eq]; exact k.set off h1)
theorem Rn.cellsL {ρ : Ren} {v u : Value} (h : Rn ρ v u) : RL ρ (cellsL v) (Go.Proofs.Ytpkckgdpdnkbeaa.cellsL u) := by
  cases h with
  | agg hl hh => exact ⟨hl, hh⟩
  | bool b => exact .cons (.bool b) (.nil ρ)
  | int k n => exact .cons (.int k n) (.nil ρ)
  | string s => exact .cons (.string s) (.nil ρ)
  | ptr0 => exact .cons .ptr0 (.nil ρ)
  | ptr h => exact .cons (.ptr h) (.nil ρ)
  | ptrR h => exact .cons (.ptrR h) (.nil ρ)
  | slice0 l c hlc => exact .cons (.slice0 l c hlc) (.nil ρ)
  | sliceE hl hc => exact .cons (.sliceE hl hc) (.nil ρ)
  | slice l c h hlc => exact .cons (.slice l c h hlc) (.nil ρ)
  | sliceR l c c' h hlc hcc hq => exact .cons (.sliceR l c c' h hlc hcc hq) (.nil ρ)
  | map0 => exact .cons .map0 (.nil ρ)
  | map h => exact .cons (.map h) (.nil ρ)
  | nilIface => exact .cons .nilIface (.nil ρ)
  | nilFunc => exact .cons .nilFunc (.nil ρ)
  | tuple hl hh => exact .cons (.tuple hl hh) (.nil ρ)
  | func fn hl hh hl2 hh2 => exact .cons (.func fn hl hh hl2 hh2) (.nil ρ)
  | iface t hh => exact .cons (.iface t hh) (.nil ρ)
/-- parts of a value -/
def PL (ρ : Ren) (ps qs : List (Nat × Value)) : Prop := ps.length = qs.length ∧ ∀ (i : Nat) p q, ps[i]? = some p → qs[i]? = some q → p.1 = q.1 ∧ Rn ρ p.2 q.2
theorem PL.cons_inv {ρ : Ren} {p : Nat × Value} {ps qs : List (Nat × Value)} (h : PL ρ (p :: ps) qs) : ∃ q qs', qs = q :: qs' ∧ p.1 = q.1 ∧ Rn ρ p.2 q.2 ∧ PL ρ ps qs' := by
  cases qs with
  | nil => have := h.1; simp at this
  | cons u us' =>
    have h0 := h.2 0 p u (by simp) (by simp)
    exact ⟨u, us', rfl, h0.1, h0.2, by have := h.1; simpa using this, fun i x y hx hy => h.2 (i + 1) x y (by simpa using hx) (by simpa using hy)⟩
theorem lfill_RL {ρ : Ren} {place : Nat → Option (Nat × Nat)} : ∀ {ps qs : List (Nat × Value)} {cs ds out : List Value}, PL ρ ps qs → RL ρ cs ds → lfill place cs ps = some out → ∃ o2, lfill place ds qs = some o2 ∧ RL ρ out o2
  | [], qs, cs, ds, out, h, k, e => by
    have : qs = [] := by
      cases qs with
      | nil => rfl
      | cons q qs => have := h.1; simp at this
    subst this
    cases e
    exact ⟨ds, rfl, k⟩
  | (i, v) :: ps, qs, cs, ds, out, h, k, e => by
    obtain ⟨⟨j, u⟩, qs', rfl, e1, h1, h2⟩ := h.cons_inv
    simp only at e1 h1
    subst e1
    unfold lfill at e ⊢
    cases hp : place i with
    | none => rw [hp] at e; cases e
    | some p =>
      obtain ⟨off, size⟩ := p
      simp only [hp] at e ⊢
      have hc := h1.cellsL
      rw [← hc.1, ← k.1]
      cases hb : (Nat.beq (cellsL v).length size && Nat.ble (off + (cellsL v).length) cs.length) with
      | false => rw [hb] at e; cases e
      | true =>
        rw [hb] at e
        exact lfill_RL h2 (RL.putAt off hc k) e
/-- what is known beforehand: contracts of functions that only read and leave new memory behind, and how values of a type are held against each other -/
abbrev QCon := List Value → List AObj → (Value → Out) → Out
/-- what a function hands out: a value that names new objects, and these -/
abbrev FRes := (Nat → Value) × List AObj
abbrev FCon := List Value → List AObj → (FRes → Out) → Out
structure Env where
  P : Program
  Q : FuncId → Option QCon
  E : TypeId → Option (Value → Value → Option Bool)
  F : FuncId → Option FCon
/-- It yields one thing, whatever is done with it. -/
def Det {α : Type} (f : (α → Out) → Out) : Prop := ∀ (k : α → Out) (Φ : Lf), (f k).sat Φ → ∃ v, (k v).sat Φ ∧ ∀ (k' : α → Out) (Φ' : Lf), (k' v).sat Φ' → (f k').sat Φ'
def QOk (P : Program) (f : FuncId) (F : QCon) : Prop :=
  (∀ args w, (callFunc f args).run P w = .ok (.enter f args) w) ∧ (∀ args H, Det (F args H)) ∧
  ∀ Φ args H k, (F args H k).sat Φ → ∀ base w0 ρ w us, HC base w0 ρ H w → RL ρ args us → ∃ v u, (k v).sat Φ ∧ Rn ρ v u ∧
    ∀ w', Below w.heap.size w w' → Calls P f ⟨us⟩ w' fun e w'' => e = .returned u ∧ Below w'.heap.size w' w''
def EOk (P : Program) (T : TypeId) (F : Value → Value → Option Bool) : Prop :=
  P.eqGuardType P.depth T = false ∧ ∀ x y b, F x y = some b → (∃ cs, x = .agg cs) ∧ (∃ cs, y = .agg cs) ∧ ∀ w, (Op.equal T x y).run P w = .ok b w
/-- It hands out new objects and leaves the others as they were. -/
def FOk (P : Program) (f : FuncId) (F : FCon) : Prop :=
  (∀ args w, (callFunc f args).run P w = .ok (.enter f args) w) ∧ (∀ args H, Det (F args H)) ∧
  ∀ Φ args H k, (F args H k).sat Φ → ∀ base w0 ρ w us, HC base w0 ρ H w → RL ρ args us → ∃ R : FRes, (k R).sat Φ ∧ R.2.length ≤ 6 ∧ allO flatO R.2 = true ∧
    ∀ w', Below w.heap.size w w' → Calls P f ⟨us⟩ w' fun e w'' => ∃ u, ∃ ls : List Loc, e = .returned u ∧ HC w'.heap.size w' (fun i => ls[i]?) R.2 w'' ∧ (∀ (j : Nat) b s z, ls[j]? = some (some (b, s, z)) → w'.heap.size ≤ b) ∧ ∀ ρ' id, (∀ j l, ls[j]? = some l → ρ' (id + j) = some l) → Rn ρ' (R.1 id) u
structure Env.Ok (En : Env) : Prop where
  q : ∀ f F, En.Q f = some F → QOk En.P f F
  f : ∀ f F, En.F f = some F → FOk En.P f F
  e : ∀ T F, En.E T = some F → EOk En.P T F
def vget (S : ASt) (x : Operand) (k : Value → Out) : Out := match S.ev x with | some v => k v | none => .bad
def evL (S : ASt) : List Operand → Option (List Value)
  | [] => some []
  | x :: xs => match S.ev x with | some v => (match evL S xs with | some vs => some (v :: vs) | none => none) | none => none
def evP (S : ASt) : List (Nat × Operand) → Option (List (Nat × Value))
  | [] => some []
  | (i, x) :: xs => match S.ev x with | some v => (match evP S xs with | some vs => some ((i, v) :: vs) | none => none) | none => none
def allClean (S : ASt) : List Operand → Bool
  | [] => true
  | x :: xs => match S.ev x with | some v => clean v && allClean S xs | none => false
def ASt.evd (S : ASt) (x : Operand) : Value := match S.ev x with | some v => v | none => undef
def vpure (P : Program) (o : Oper) (S : ASt) (k : Value → Out) : Out :=
  match allClean S o.op.operands.toList with
  | true => (match pureRun P (execOp S.evd o) with
    | some (.value r) => (match clean r with | true => k r | false => .bad)
    | _ => .bad)
  | false => .bad
def byteAt (s : ByteArray) (n : Nat) : Int := ((s.data.toList[n]?.getD 0).toNat : Int)
def fieldPl (P : Program) : List Field → Option (List (Nat × Nat))
  | [] => some []
  | f :: fs => match P.info? f.type with | some i => (match fieldPl P fs with | some l => some ((f.offset, i.size) :: l) | none => none) | none => none
end Go.Proofs.Ytpkckgdpdnkbeaa
