/- A symbolic run of Go code: operations that leave memory alone, each sound. -/
import Derived.Test.YtpkckgdpdnkbeaaZc
namespace Go.Proofs.Ytpkckgdpdnkbeaa
open Go.RowKit
def vload (P : Program) (t : TypeId) (H : List AObj) (p : Option Value) (k : Value → Out) : Out :=
  match p with
  | some (.pointer (some ⟨i, off, sp⟩)) => (match aggSize P t with
    | some (true, n) => readH H i off sp n fun vs => k (.agg ⟨vs⟩)
    | some (false, _) => readH H i off sp 1 fun vs => (match vs with | v :: _ => k v | [] => .bad)
    | none => .bad)
  | _ => .bad
/-- the place of a record so many further -/
def spAdd (sp : Option Nat) (n : Nat) : Option Nat :=
  match sp with
  | none => some n
  | some r => some (n + r)
/-- the place so many elements further -/
def stepA (H : List AObj) (i off : Nat) (sp : Option Nat) (n sz : Nat) (k : Addr → Out) : Out :=
  match nthL H i with
  | some (.recs sh _ _) => (match Nat.beq sh.length sz with | true => k ⟨i, off, spAdd sp n⟩ | false => .bad)
  | some (.row _ sh _ _) => (match Nat.beq sh.length sz with | true => k ⟨i, off, spAdd sp n⟩ | false => .bad)
  | some (.cells _ _) => (match sp with | none => k ⟨i, off + n * sz, none⟩ | some _ => .bad)
  | _ => .bad
/-- a list's part -/
def cutA (H : List AObj) (i off : Nat) (sp : Option Nat) (l sz len cap : Nat) (k : Value → Out) : Out :=
  match nthL H i with
  | some (.recs sh _ _) => (match sp with | some r => (match Nat.beq sh.length sz with | true => k (.slice (some ⟨i, off, some (l + r)⟩) len cap) | false => .bad) | none => .bad)
  | some (.row _ sh _ _) => (match sp with | some r => (match Nat.beq sh.length sz with | true => k (.slice (some ⟨i, off, some (l + r)⟩) len cap) | false => .bad) | none => .bad)
  | some (.cells _ _) => (match sp with | none => k (.slice (some ⟨i, off + l * sz, none⟩) len cap) | some _ => .bad)
  | _ => .bad
def vindexAddr (P : Program) (t : TypeId) (H : List AObj) (x ix : Option Value) (k : Value → Out) : Out :=
  match P.underlying t with
  | some (.slice e) => (match x with
    | some (.slice (some ⟨i, off, sp⟩) len _) => (match ix with
      | some (.int _ n) => (match P.info? e with | some inf => .ask (0 ≤ n ∧ n < len) (stepA H i off sp n.toNat inf.size fun a => k (.pointer (some a))) | none => .bad)
      | _ => .bad)
    | _ => .bad)
  | some (.array len e) => (match x with
    | some (.pointer (some ⟨i, off, none⟩)) => (match ix with
      | some (.int _ n) => (match P.info? e with | some inf => .ask (0 ≤ n ∧ n < len) (k (.pointer (some ⟨i, off + n.toNat * inf.size, none⟩))) | none => .bad)
      | _ => .bad)
    | _ => .bad)
  | _ => .bad
def vfieldAddr (P : Program) (t : TypeId) (x : Option Value) (f : Nat) (k : Value → Out) : Out :=
  match P.underlying t with
  | some (.struct ⟨fs⟩) => (match x with
    | some (.pointer (some ⟨i, off, sp⟩)) => (match nthL fs f with
      | some fd => (match P.info? fd.type with
        | some inf => (match inf.size with | 0 => .bad | _ + 1 => k (.pointer (some ⟨i, off + fd.offset, sp⟩)))
        | none => .bad)
      | none => .bad)
    | _ => .bad)
  | _ => .bad
def vfield (P : Program) (t : TypeId) (x : Option Value) (f : Nat) (k : Value → Out) : Out :=
  match P.underlying t with
  | some (.struct ⟨fs⟩) => (match x with
    | some (.agg ⟨cs⟩) => (match nthL fs f with
      | some fd => (match aggSize P fd.type with
        | some (true, n) => (match readN (nthL cs) fd.offset n with | some vs => k (.agg ⟨vs⟩) | none => .bad)
        | some (false, _) => (match nthL cs fd.offset with | some v => k v | none => .bad)
        | none => .bad)
      | none => .bad)
    | _ => .bad)
  | _ => .bad
/-- a slice expression whose parts are nothing: [:0:0] -/
def vslice3 (P : Program) (t : TypeId) (x : Option Value) (hi mx : Option Value) (k : Value → Out) : Out :=
  match P.underlying t with
  | some (.slice e) => (match P.info? e with
    | some _ => (match x with
      | some (.slice _ _ _) => (match hi with
        | some (.int .i64 h) => (match mx with
          | some (.int .i64 m) => .ask (h = 0 ∧ m = 0) (k (.slice none 0 0))
          | _ => .bad)
        | _ => .bad)
      | _ => .bad)
    | none => .bad)
  | _ => .bad
def vindex (P : Program) (t : TypeId) (x ix : Option Value) (k : Value → Out) : Out :=
  match P.underlying t with
  | some (.array len e) => (match x with
    | some (.agg ⟨cs⟩) => (match ix with
      | some (.int _ n) => (match aggSize P e with
        | some (false, _) => (match P.info? e with
          | some inf => (match nthL cs (n.toNat * inf.size) with
            | some v => .ask (0 ≤ n ∧ n < len) (k v)
            | none => .bad)
          | none => .bad)
        | _ => .bad)
      | _ => .bad)
    | _ => .bad)
  | some .string => (match x with
    | some (.string s) => (match ix with
      | some (.int _ n) => .ask (0 ≤ n ∧ n < s.size) (k (.int .u8 (byteAt s n.toNat)))
      | _ => .bad)
    | _ => .bad)
  | _ => .bad
def obnd (x : Option (Option Value)) (y dflt : Nat) (k : Nat → Out) : Out :=
  match x with
  | none => k dflt
  | some (some (.int _ i)) => .ask (0 ≤ i ∧ i ≤ y) (k i.toNat)
  | _ => .bad
def vslice (P : Program) (t : TypeId) (H : List AObj) (x : Option Value) (lo hi : Option (Option Value)) (k : Value → Out) : Out :=
  match P.underlying t with
  | some .string => (match x with
    | some (.string s) => obnd hi s.size s.size fun h => obnd lo h 0 fun l => k (.string (s.extract l h))
    | _ => .bad)
  | some (.slice e) => (match P.info? e with
    | some inf => (match x with
      | some (.slice (some ⟨i, off, sp⟩) len cap) => obnd hi cap len fun h => obnd lo h 0 fun l => cutA H i off sp l inf.size (h - l) (cap - l) k
      | some (.slice none len cap) => obnd hi cap len fun h => obnd lo h 0 fun l => k (.slice none (h - l) (cap - l))
      | _ => .bad)
    | none => .bad)
  | _ => .bad
def vextract (x : Option Value) (n : Nat) (k : Value → Out) : Out :=
  match x with
  | some (.tuple ⟨vs⟩) => (match nthL vs n with | some v => k v | none => .bad)
  | _ => .bad
def vlen (P : Program) (ts : List TypeId) (x : Option (List Value)) (k : Value → Out) : Out :=
  match ts with
  | t :: _ => (match x with
    | some [v] => (match P.underlying t with
      | some (.slice _) => (match v with | .slice _ n _ => k (.int .i64 n) | _ => .bad)
      | some .string => (match v with | .string s => k (.int .i64 s.size) | _ => .bad)
      | _ => .bad)
    | _ => .bad)
  | [] => .bad
def vcall (En : Env) (f : Option Value) (x : Option (List Value)) (H : List AObj) (k : Value → Out) : Out :=
  match f with
  | some (.func (.func g) ⟨fs⟩ ⟨cs⟩) => (match En.Q g with
    | some F => (match x with | some vs => F (fs ++ vs ++ cs) H k | none => .bad)
    | none => .bad)
  | _ => .bad
def vbuild (P : Program) (t : TypeId) (ps : Option (List (Nat × Value))) (k : Value → Out) : Out :=
  match P.underlying t with
  | some (.struct ⟨fs⟩) => (match P.info? t with
    | some inf => (match inf.zero with
      | some z => (match selfB z with
        | true => (match fieldPl P fs with
          | some pl => (match ps with
            | some ps => (match lfill (nthL pl) (cellsL z) ps with | some cs => k (.agg ⟨cs⟩) | none => .bad)
            | none => .bad)
          | none => .bad)
        | false => .bad)
      | none => .bad)
    | none => .bad)
  | _ => .bad
def vbuildA (P : Program) (t : TypeId) (ps : Option (List (Nat × Value))) (k : Value → Out) : Out :=
  match P.underlying t with
  | some (.array _ e) => (match P.info? t with
    | some inf => (match inf.zero with
      | some z => (match selfB z with
        | true => (match P.info? e with
          | some ie => (match ps with
            | some ps => (match lfill (fun i => some (i * ie.size, ie.size)) (cellsL z) ps with | some cs => k (.agg ⟨cs⟩) | none => .bad)
            | none => .bad)
          | none => .bad)
        | false => .bad)
      | none => .bad)
    | none => .bad)
  | _ => vbuild P t ps k
def vnil (x : Option Value) (k : Value → Out) : Out :=
  match x with
  | some (.pointer (some a)) => k (.pointer (some a))
  | _ => .bad
def vfunc (g : Fn) (x y : Option (List Value)) (k : Value → Out) : Out :=
  match x with
  | some xs => (match y with | some ys => k (.func g ⟨xs⟩ ⟨ys⟩) | none => .bad)
  | none => .bad
def veq (F : Value → Value → Option Bool) (pos : Bool) (x y : Option Value) (k : Value → Out) : Out :=
  match x with
  | some x => (match y with
    | some y => (match clean x && clean y with
      | true => (match F x y with | some b => k (.bool (bif pos then b else !b)) | none => .bad)
      | false => .bad)
    | none => .bad)
  | none => .bad
def shlV (k : IntKind) (a b : Int) : Int := k.wrap (a * 2 ^ (min b.toNat k.bits))
def shrV (k : IntKind) (a b : Int) : Int := a.fdiv (2 ^ (min b.toNat k.bits))
/-- operations on numbers that panic at some second ones -/
def vnum (op : BinOp) (x y : Option Value) (k : Value → Out) : Out :=
  match x with
  | some (.int j a) => (match y with
    | some (.int j' b) => (match op with
      | .shl => .ask (0 ≤ b) (k (.int j (shlV j a b)))
      | .shr => .ask (0 ≤ b) (k (.int j (shrV j a b)))
      | .quo => .ask (b ≠ 0 ∧ j = j') (k (.int j (j.wrap (a.tdiv b))))
      | .rem => .ask (b ≠ 0 ∧ j = j') (k (.int j (a.tmod b)))
      | _ => .bad)
    | _ => .bad)
  | _ => .bad
def isNum : BinOp → Bool
  | .shl | .shr | .quo | .rem => true
  | _ => false
/-- the entry of a map whose key is a number -/
def vfind (n : Int) : List MapEntry → (Value → Out) → Out → Out
  | [], _, miss => miss
  | e :: l, hit, miss => (match e.key with
    | .int .i64 m => tst (n == m) (hit e.val) (vfind n l hit miss)
    | _ => .bad)
/-- a map of whole numbers looked up -/
def vlookup (P : Program) (t : TypeId) (H : List AObj) (x ix : Option Value) (k : Value → Out) : Out :=
  match P.underlying t with
  | some (.map kt et) => (match P.underlying kt with
    | some (.int .i64) => (match x with
      | some (.map (some i)) => (match ix with
        | some (.int .i64 n) => (match nthL H i with
          | some (.mp es _) => (match P.info? et with
            | some inf => (match inf.zero with
              | some z => (match clean z with
                | true => vfind n es (fun v => k (.tuple ⟨[v, .bool true]⟩)) (k (.tuple ⟨[z, .bool false]⟩))
                | false => .bad)
              | none => .bad)
            | none => .bad)
          | _ => .bad)
        | _ => .bad)
      | _ => .bad)
    | _ => .bad)
  | _ => .bad
/-- is a list nil? -/
def nilS (P : Program) (t : TypeId) (x : Option Value) (y : Operand) : Option Nat :=
  match y with
  | .const (.slice none _ _) => (match x with
    | some (.slice (some _) l _) => (match P.underlying t with | some (.slice _) => some l | _ => none)
    | _ => none)
  | _ => none
/-- only one of no elements may be -/
def vsnil (op : BinOp) (l : Nat) (k : Value → Out) : Out :=
  match op with
  | .eql => .all fun n => k (.bool (Nat.beq l 0 && Nat.beq n 0))
  | .neq => .all fun n => k (.bool (!(Nat.beq l 0 && Nat.beq n 0)))
  | _ => .bad
/-- AN OPERATION THAT LEAVES MEMORY ALONE -/
def vop (En : Env) (o : Oper) (S : ASt) (k : Value → Out) : Out :=
  match o.op with
  | .move x => vget S x k
  | .assign x => vget S x k
  | .pick c x y => (match S.ev c with | some (.bool b) => tst b (vget S x k) (vget S y k) | _ => .bad)
  | .load t x => vload En.P t S.heap (S.ev x) k
  | .indexAddr t x ix => vindexAddr En.P t S.heap (S.ev x) (S.ev ix) k
  | .fieldAddr t x f => vfieldAddr En.P t (S.ev x) f k
  | .field t x f => vfield En.P t (S.ev x) f k
  | .index t x ix => vindex En.P t (S.ev x) (S.ev ix) k
  | .extract x n => vextract (S.ev x) n k
  | .slice t x lo hi none => vslice En.P t S.heap (S.ev x) (lo.map S.ev) (hi.map S.ev) k
  | .build t ⟨ps⟩ => vbuildA En.P t (evP S ps) k
  | .nilCheck x => vnil (S.ev x) k
  | .makeFunc g ⟨xs⟩ ⟨ys⟩ => vfunc g (evL S xs) (evL S ys) k
  | .slice t x none (some hi) (some mx) => vslice3 En.P t (S.ev x) (S.ev hi) (S.ev mx) k
  | .call ⟨.builtin .len, ⟨xs⟩, ⟨ts⟩⟩ => vlen En.P ts (evL S xs) k
  | .call ⟨.builtin .min, _, _⟩ => vpure En.P o S k
  | .call ⟨.builtin .max, _, _⟩ => vpure En.P o S k
  | .call ⟨.value f, ⟨xs⟩, _⟩ => vcall En (S.ev f) (evL S xs) S.heap k
  | .binOp op t x y _ => (match En.E t with
    | some F => (match op with
      | .eql => veq F true (S.ev x) (S.ev y) k
      | .neq => veq F false (S.ev x) (S.ev y) k
      | _ => .bad)
    | none => (match isNum op with | true => vnum op (S.ev x) (S.ev y) k | false => vpure En.P o S k))
  | .unOp .. => vpure En.P o S k
  | .convert .. => vpure En.P o S k
  | .lookup t x ix true => vlookup En.P t S.heap (S.ev x) (S.ev ix) k
  | _ => .bad
/-- What is asked of a value operation. -/
def VGoal (P : Program) (o : Oper) (Φ : Lf) (k : Value → Out) (ρ : Ren) (a : Act) (w : World) : Prop :=
  ∃ v u, (k v).sat Φ ∧ Rn ρ v u ∧ ∀ w', Below w.heap.size w w' → o.quietAt P a (fun w'' => Below w.heap.size w w'') w' u
theorem quiet_val {P : Program} {o : Oper} {a : Act} {C : World → Prop} {w : World} {u : Value} (h : (execOp a.eval o).run P w = .ok (.value u) w) : o.quietAt P a C w u := by
  unfold Oper.quietAt
  rw [h]
  exact ⟨rfl, rfl⟩
/-- An operation that runs one piece of semantics and yields its value. -/
theorem run_v {P : Program} {s : Sem Value} {u : Value} {w : World} (h : s.run P w = .ok u w) : (do pure (Next.value (← s)) : Sem Next).run P w = .ok (.value u) w := by
  rw [Sem.run_bind, h]
  rfl
theorem eval_clean {ρ : Ren} {S : ASt} {a : Act} (h : SC ρ S.slots a) : ∀ {l : List Operand}, allClean S l = true → ∀ x ∈ l, S.evd x = a.eval x
  | [], _, x, hx => by simp at hx
  | y :: l, hl, x, hx => by
    unfold allClean at hl
    cases hy : S.ev y with
    | none => simp only [hy] at hl; cases hl
    | some v =>
      simp only [hy, Bool.and_eq_true] at hl
      rcases List.mem_cons.1 hx with rfl | hx
      · have := (clean_Rn hl.1).1 (h.ev hy)
        unfold ASt.evd
        rw [hy, this]
      · exact eval_clean h hl.2 x hx
theorem evL_RL {ρ : Ren} {S : ASt} {a : Act} (h : SC ρ S.slots a) : ∀ {l : List Operand} {vs : List Value}, evL S l = some vs → RL ρ vs (l.map a.eval)
  | [], vs, e => by cases e; exact .nil ρ
  | x :: l, vs, e => by
    unfold evL at e
    cases hx : S.ev x with
    | none => simp only [hx] at e; cases e
    | some v =>
      cases hl : evL S l with
      | none => simp only [hx, hl] at e; cases e
      | some vs' =>
        simp only [hx, hl] at e
        cases e
        exact .cons (h.ev hx) (evL_RL h hl)
theorem evP_PL {ρ : Ren} {S : ASt} {a : Act} (h : SC ρ S.slots a) : ∀ {l : List (Nat × Operand)} {vs : List (Nat × Value)}, evP S l = some vs → PL ρ vs (l.map fun p => (p.1, a.eval p.2))
  | [], vs, e => by cases e; exact ⟨rfl, fun i p q hp => by simp at hp⟩
  | (n, x) :: l, vs, e => by
    unfold evP at e
    cases hx : S.ev x with
    | none => simp only [hx] at e; cases e
    | some v =>
      cases hl : evP S l with
      | none => simp only [hx, hl] at e; cases e
      | some vs' =>
        simp only [hx, hl] at e
        cases e
        have ih := evP_PL h hl
        refine ⟨by simp [ih.1], fun i p q hp hq => ?_⟩
        cases i with
        | zero => simp at hp hq; subst hp; subst hq; exact ⟨rfl, h.ev hx⟩
        | succ i => exact ih.2 i p q (by simpa using hp) (by simpa using hq)
section
variable {P : Program} {o : Oper} {Φ : Lf} {k : Value → Out} {ρ : Ren} {a : Act} {w : World} {S : ASt}
theorem vget_ok {x : Operand} (ho : ∀ ev : Operand → Value, execOp ev o = pure (.value (ev x))) (h : (vget S x k).sat Φ) (hs : SC ρ S.slots a) : VGoal P o Φ k ρ a w := by
  unfold vget at h
  cases hx : S.ev x with
  | none => rw [hx] at h; exact h.elim
  | some v =>
    rw [hx] at h
    exact ⟨v, _, h, hs.ev hx, fun w' _ => quiet_val (by rw [ho]; rfl)⟩
theorem vpure_ok (hsel : ∀ cs b, o.op ≠ .select cs b) (h : (vpure P o S k).sat Φ) (hs : SC ρ S.slots a) : VGoal P o Φ k ρ a w := by
  unfold vpure at h
  cases hc : allClean S o.op.operands.toList with
  | false => simp only [hc] at h; exact h.elim
  | true =>
    simp only [hc] at h
    have he : execOp S.evd o = execOp a.eval o := execOp_congr o hsel fun x hx => eval_clean hs hc x (by simpa using hx)
    rw [he] at h
    cases hr : pureRun P (execOp a.eval o) with
    | none => simp only [hr] at h; exact h.elim
    | some n =>
      simp only [hr] at h
      cases n <;> first | exact h.elim | skip
      rename_i r
      simp only at h
      cases hcl : clean r with
      | false => simp only [hcl] at h; exact h.elim
      | true =>
        simp only [hcl] at h
        exact ⟨r, r, h, (clean_Rn hcl).2 rfl, fun w' _ => quiet_val (pureRun_run hr w')⟩
/-- the address that an address of ours stands for -/
theorem Rn.ptrA {ρ : Ren} {i off : Nat} {sp : Option Nat} {u : Value} (h : Rn ρ (.pointer (some ⟨i, off, sp⟩)) u) : ∃ b s z, ρ i = some (some (b, s, z)) ∧ u = .pointer (some ⟨b, placeOf s z sp + off, none⟩) := by
  cases h with
  | ptr h => exact ⟨_, _, _, h, rfl⟩
  | ptrR h => exact ⟨_, _, _, h, rfl⟩
theorem Rn.mkPtr {ρ : Ren} {i off b s : Nat} {z : Nat × Nat} (sp : Option Nat) (h : ρ i = some (some (b, s, z))) : Rn ρ (.pointer (some ⟨i, off, sp⟩)) (.pointer (some ⟨b, placeOf s z sp + off, none⟩)) := by
  cases sp with
  | none => exact .ptr h
  | some r => exact .ptrR h
theorem vload_ok {base : Nat} {w0 : World} {t : TypeId} {x : Operand} (ho : o.op = .load t x) (h : (vload P t S.heap (S.ev x) k).sat Φ) (hs : SC ρ S.slots a) (hc : HC base w0 ρ S.heap w) : VGoal P o Φ k ρ a w := by
  unfold vload at h
  split at h
  · rename_i i off sp hx
    have hr := hs.ev hx
    generalize he : a.eval x = ux at hr
    obtain ⟨b, s, z, hi, rfl⟩ := hr.ptrA
    have hrun : ∀ (w' : World) u, (loadVar t ⟨b, placeOf s z sp + off, none⟩).run P w' = .ok u w' → (execOp a.eval o).run P w' = .ok (.value u) w' := fun w' u hl => by
      unfold execOp
      rw [ho]
      refine run_v ?_
      rw [he]
      show Sem.run P (do loadVar t (← Instr.sureAddr (.pointer (some ⟨b, placeOf s z sp + off, none⟩)))) w' = _
      rw [Sem.run_bind]
      exact hl
    split at h
    · rename_i n hs'
      obtain ⟨vs, us, h1, h2, h3, h4⟩ := readH_ok h hc hi
      refine ⟨_, .agg ⟨us⟩, h1, Rn.aggRL h2, fun w' hw' => quiet_val (hrun w' _ ?_)⟩
      rw [run_loadVar hs' (by rw [← h2.1, h3]) (h4 w' hw')]
      rfl
    · rename_i n hs'
      obtain ⟨vs, us, h1, h2, h3, h4⟩ := readH_ok h hc hi
      match vs, h3, h1, h2 with
      | [v], _, h1, h2 =>
        obtain ⟨u, us', rfl, h5, h6⟩ := h2.cons_inv
        have := h6.nil_inv
        subst this
        have hn : n = 1 := by
          unfold aggSize at hs'
          cases hu : P.underlying t with
          | none => rw [hu] at hs'; cases hs'
          | some d =>
            rw [hu] at hs'
            cases hd : aggD d with
            | true =>
              simp only [hd] at hs'
              cases hi : P.info? t with
              | none => rw [hi] at hs'; cases hs'
              | some i => rw [hi] at hs'; cases hs'
            | false => simp only [hd] at hs'; cases hs'; rfl
        subst hn
        refine ⟨v, u, h1, h5, fun w' hw' => quiet_val (hrun w' _ ?_)⟩
        rw [run_loadVar hs' rfl (h4 w' hw')]
        rfl
    · exact h.elim
  · exact h.elim
end
end Go.Proofs.Ytpkckgdpdnkbeaa
