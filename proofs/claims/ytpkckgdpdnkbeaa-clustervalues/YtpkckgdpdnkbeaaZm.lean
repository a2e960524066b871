/- Contracts for a symbolic run: what is known grows function by function; lists and structs that are handed in, and out. -/
import Derived.Test.YtpkckgdpdnkbeaaZl
namespace Go.Proofs.Ytpkckgdpdnkbeaa
open Go.RowKit
def Kn.start (P : Program) : Kn := { P := P, Q := fun _ => none, E := fun _ => none, F := fun _ => none, M := fun _ => none }
def Kn.addQ (K : Kn) (f : FuncId) (F : QCon) : Kn := { K with Q := fun g => match Nat.beq g f with | true => some F | false => K.Q g }
def Kn.addM (K : Kn) (f : FuncId) (F : MCon) : Kn := { K with M := fun g => match Nat.beq g f with | true => some F | false => K.M g }
def Kn.addE (K : Kn) (t : TypeId) (F : Value → Value → Option Bool) : Kn := { K with E := fun g => match Nat.beq g t with | true => some F | false => K.E g }
theorem Kn.start_ok {P : Program} (h : P.follows .mixedOrders = true) : (Kn.start P).Ok := ⟨⟨fun _ _ e => (by cases e), fun _ _ e => (by cases e), fun _ _ e => (by cases e)⟩, fun _ _ e => (by cases e), h⟩
theorem Kn.Ok.addQ {K : Kn} (h : K.Ok) {f : FuncId} {F : QCon} (hF : QOk K.P f F) : (K.addQ f F).Ok := by
  refine ⟨⟨fun g G e => ?_, h.v.f, h.v.e⟩, h.m, h.mixed⟩
  simp only [Kn.addQ] at e
  cases hb : Nat.beq g f with
  | true => rw [hb] at e; cases e; rw [Nat.beq_eq] at hb; subst hb; exact hF
  | false => rw [hb] at e; exact h.v.q g G e
theorem Kn.Ok.addM {K : Kn} (h : K.Ok) {f : FuncId} {F : MCon} (hF : MOk K.P f F) : (K.addM f F).Ok := by
  refine ⟨h.v, fun g G e => ?_, h.mixed⟩
  simp only [Kn.addM] at e
  cases hb : Nat.beq g f with
  | true => rw [hb] at e; cases e; rw [Nat.beq_eq] at hb; subst hb; exact hF
  | false => rw [hb] at e; exact h.m g G e
theorem Kn.Ok.addE {K : Kn} (h : K.Ok) {t : TypeId} {F : Value → Value → Option Bool} (hF : EOk K.P t F) : (K.addE t F).Ok := by
  refine ⟨⟨h.v.q, h.v.f, fun g G e => ?_⟩, h.m, h.mixed⟩
  simp only [Kn.addE] at e
  cases hb : Nat.beq g t with
  | true => rw [hb] at e; cases e; rw [Nat.beq_eq] at hb; subst hb; exact hF
  | false => rw [hb] at e; exact h.v.e g G e
def Kn.addF (K : Kn) (f : FuncId) (F : FCon) : Kn := { K with F := fun g => match Nat.beq g f with | true => some F | false => K.F g }
theorem Kn.Ok.addF {K : Kn} (h : K.Ok) {f : FuncId} {F : FCon} (hF : FOk K.P f F) : (K.addF f F).Ok := by
  refine ⟨⟨h.v.q, fun g G e => ?_, h.v.e⟩, h.m, h.mixed⟩
  simp only [Kn.addF] at e
  cases hb : Nat.beq g f with
  | true => rw [hb] at e; cases e; rw [Nat.beq_eq] at hb; subst hb; exact hF
  | false => rw [hb] at e; exact h.v.f g G e
/-- a function's end, memory aside -/
def finV (P : Program) (fn : Func) (e : AE) (S : ASt) : Out :=
  match e with
  | .exit _ => .bad
  | .normal => (match resL P S fn.results.toList with | some vs => .done .ret ⟨[some (oneOf vs)], []⟩ | none => .bad)
  | .ret => (match resL P S fn.results.toList with | some vs => .done .ret ⟨[some (oneOf vs)], []⟩ | none => .bad)
/-- A RUN OF A FUNCTION, memory aside -/
def evV (Kn : Kn) (L : Nat → Option LCon) (fn : Func) (args : List Value) (H : List AObj) : Out :=
  match fn.body with
  | some c => ev Kn L c ⟨someL args ++ repO (fn.ntmps - args.length), H⟩ (finV Kn.P fn)
  | none => .bad
theorem evV_ok {Kn : Kn} (hK : Kn.Ok) {L : Nat → Option LCon} {f : FuncId} {fn : Func} (hf : Kn.P.funcs[f]? = some fn) (hL : ∀ c, fn.body = some c → ∀ c' ∈ loops c, ∀ F, L (key c') = some F → LOk Kn.P c' F)
    {args : List Value} {H : List AObj} {r : Value} (h : (evV Kn L fn args H).sat fun _ S => S.slots = [some r]) {base : Nat} {w0 w : World} {ρ : Ren} {us : List Value} (hc : HC base w0 ρ H w) (hr : RL ρ args us) {R : Ending → World → Prop}
    (hR : ∀ H' ρ' w' u, HC base w0 ρ' H' w' → RLe ρ ρ' → Rn ρ' r u → R (.returned u) w') : Calls Kn.P f ⟨us⟩ w R := by
  unfold evV at h
  split at h
  · rename_i c hb
    refine calls_of_wp hf hb (ev_ok hK c (hL c hb) _ _ ρ _ w _ h hc (slots_ok hr fn.ntmps) fun e S' ρ' a' w' g1 g2 g3 g4 => ?_)
    have key : ∀ vs, resL Kn.P S' fn.results.toList = some vs → oneOf vs = r → a'.defers = [] ∧ ∃ v, (results fn a'.tmps).run Kn.P w' = .ok v w' ∧ R (.returned v) w' := fun vs e1 e2 => by
      obtain ⟨u, e3, e4⟩ := fin_ok g2 g3 e1
      exact ⟨g3.1, u, e4, hR _ ρ' w' u g2 g4 (by rw [← e2]; exact e3)⟩
    have inj : ∀ vs, ([some (oneOf vs)] : List (Option Value)) = [some r] → oneOf vs = r := fun vs e => by cases e; rfl
    unfold finV at g1
    cases e with
    | exit n => exact g1.elim
    | normal =>
      simp only at g1
      split at g1
      · rename_i vs hv; exact key vs hv (inj vs g1)
      · exact g1.elim
    | ret =>
      simp only at g1
      split at g1
      · rename_i vs hv; exact key vs hv (inj vs g1)
      · exact g1.elim
  · exact h.elim
/-- A function of plain values, by its run. -/
theorem callV {Kn : Kn} (hK : Kn.Ok) {L : Nat → Option LCon} {f : FuncId} {fn : Func} (hf : Kn.P.funcs[f]? = some fn) (hL : ∀ c, fn.body = some c → ∀ c' ∈ loops c, ∀ F, L (key c') = some F → LOk Kn.P c' F)
    {args : List Value} {r : Value} (h1 : allB clean args = true) (h2 : clean r = true) (h : (evV Kn L fn args []).sat fun _ S => S.slots = [some r]) (w : World) : Calls Kn.P f ⟨args⟩ w fun e w' => e = .returned r ∧ Below w.heap.size w w' :=
  evV_ok hK hf hL h (HC.empty w) ((clean_RL h1).2 rfl) fun H' ρ' w' u hc' _ hr => ⟨by rw [(clean_Rn h2).1 hr], hc'.below⟩
/-- parameters as a function alone sees them: a plain value, a list of records of cells -/
inductive CA where
  | val (v : Value)
  | rows (sh : List LK) (len : Nat) (g : Nat → List Value)
inductive C0 where
  | val
  | rows (sh : List LK)
/-- a parameter: one of these, or a struct out of them -/
inductive CK where
  | one (k : C0)
  | agg (l : List C0)
def toCA (H : List AObj) : List C0 → List Value → (List CA → Out) → Out
  | [], [], k => k []
  | .val :: ks, v :: vs, k => (match clean v with | true => toCA H ks vs fun l => k (.val v :: l) | false => .bad)
  | .rows sh :: ks, v :: vs, k => rowsOf H sh v fun len g => toCA H ks vs fun l => k (.rows sh len g :: l)
  | _, _, _ => .bad
def canonA : Nat → List CA → List Value
  | _, [] => []
  | i, .val v :: l => v :: canonA i l
  | i, .rows _ len _ :: l => .slice (some ⟨i, 0, some 0⟩) len len :: canonA (i + 1) l
def canonH : List CA → List AObj
  | [] => []
  | .val _ :: l => canonH l
  | .rows sh len g :: l => .recs sh len g :: canonH l
def takeN : Nat → List Value → List Value
  | n + 1, v :: l => v :: takeN n l
  | _, _ => []
def dropN : Nat → List Value → List Value
  | 0, l => l
  | n + 1, _ :: l => dropN n l
  | _, [] => []
def catV : List Value → List Value → List Value
  | [], l => l
  | v :: a, l => v :: catV a l
/-- structs in their cells -/
def flatV : List CK → List Value → Option (List Value)
  | [], [] => some []
  | .one _ :: ks, v :: vs => (match flatV ks vs with | some r => some (v :: r) | none => none)
  | .agg l :: ks, .agg ⟨cs⟩ :: vs => (match Nat.beq cs.length l.length with
    | true => (match flatV ks vs with | some r => some (catV cs r) | none => none)
    | false => none)
  | _, _ => none
def flatK : List CK → List C0
  | [] => []
  | .one k :: ks => k :: flatK ks
  | .agg l :: ks => l ++ flatK ks
/-- and back -/
def regr : List CK → List Value → List Value
  | .one _ :: ks, v :: vs => v :: regr ks vs
  | .agg l :: ks, vs => .agg ⟨takeN l.length vs⟩ :: regr ks (dropN l.length vs)
  | _, _ => []
theorem catV_eq : ∀ a l : List Value, catV a l = a ++ l
  | [], _ => rfl
  | v :: a, l => by rw [catV, catV_eq a l]; rfl
theorem takeN_eq : ∀ (n : Nat) (l : List Value), takeN n l = l.take n
  | 0, l => by cases l <;> simp [takeN]
  | n + 1, [] => by simp [takeN]
  | n + 1, v :: l => by simp [takeN, takeN_eq n l]
theorem dropN_eq : ∀ (n : Nat) (l : List Value), dropN n l = l.drop n
  | 0, l => by cases l <;> simp [dropN]
  | n + 1, [] => by simp [dropN]
  | n + 1, v :: l => by simp [dropN, dropN_eq n l]
theorem RL.split {ρ : Ren} {a b l : List Value} (h : RL ρ l (a ++ b)) : RL ρ (l.take a.length) a ∧ RL ρ (l.drop a.length) b := by
  have hl := h.1
  rw [List.length_append] at hl
  refine ⟨⟨by rw [List.length_take]; omega, fun i v u hv hu => ?_⟩, ⟨by rw [List.length_drop]; omega, fun i v u hv hu => ?_⟩⟩
  · have hi := (List.getElem?_eq_some_iff.1 hu).1
    rw [List.getElem?_take, if_pos hi] at hv
    exact h.2 i v u hv (by rw [List.getElem?_append_left hi]; exact hu)
  · rw [List.getElem?_drop] at hv
    exact h.2 _ v u hv (by rw [List.getElem?_append_right (by omega), Nat.add_sub_cancel_left]; exact hu)
theorem flat_ok {ρ : Ren} : ∀ {ks : List CK} {args fl us : List Value}, flatV ks args = some fl → RL ρ args us → ∃ ful, RL ρ fl ful ∧ ∀ ρ' fl', RL ρ' fl' ful → RL ρ' (regr ks fl') us
  | [], [], fl, us, h, hr => by cases h; have := hr.nil_inv; subst this; exact ⟨[], .nil ρ, fun ρ' fl' h' => .nil ρ'⟩
  | .one _ :: ks, v :: vs, fl, us, h, hr => by
    obtain ⟨u, us', rfl, h1, h2⟩ := hr.cons_inv
    unfold flatV at h
    split at h
    · rename_i r hf
      cases h
      obtain ⟨ful, g1, g2⟩ := flat_ok hf h2
      refine ⟨u :: ful, .cons h1 g1, fun ρ' fl' h' => ?_⟩
      cases fl' with
      | nil => have := h'.1; simp at this
      | cons x fl' =>
        obtain ⟨u', us2, e, h3, h4⟩ := h'.cons_inv
        cases e
        exact .cons h3 (g2 ρ' fl' h4)
    · cases h
  | .agg l :: ks, v :: vs, fl, us, h, hr => by
    obtain ⟨u, us', rfl, h1, h2⟩ := hr.cons_inv
    unfold flatV at h
    split at h
    · rename_i e; cases e
    · rename_i e _; cases e
    · rename_i l' ks' cs vs' e1 e2
      cases e1
      cases e2
      split at h
      · rename_i hb
        rw [Nat.beq_eq] at hb
        split at h
        · rename_i r hf
          cases h
          obtain ⟨ful, g1, g2⟩ := flat_ok hf h2
          cases h1 with
          | agg hl hh =>
            rename_i ds
            refine ⟨ds ++ ful, by rw [catV_eq]; exact RL.append ⟨hl, hh⟩ g1, fun ρ' fl' h' => ?_⟩
            obtain ⟨q1, q2⟩ := h'.split
            rw [← hl, hb] at q1 q2
            unfold regr
            rw [takeN_eq, dropN_eq]
            exact .cons (Rn.aggRL q1) (g2 ρ' _ q2)
        · cases h
      · cases h
    · cases h
  | [], _ :: _, _, _, h, _ => by cases h
  | .one _ :: _, [], _, _, h, _ => by cases h
  | .agg _ :: _, [], _, _, h, _ => by cases h
/-- places of the lists that a function alone sees -/
def PlA (w : World) : List CA → List Loc → Prop
  | [], [] => True
  | .val _ :: l, ps => PlA w l ps
  | .rows sh len g :: l, p :: ps => (RowAt w p sh len g ∧ len ≤ 140737488355328) ∧ PlA w l ps
  | _, _ => False
/-- parameters are of their kinds -/
def KindA : List C0 → List CA → Prop
  | [], [] => True
  | .val :: ks, .val v :: l => clean v = true ∧ KindA ks l
  | .rows sh :: ks, .rows sh' _ _ :: l => sh' = sh ∧ KindA ks l
  | _, _ => False
theorem toCA_ok {Φ : Lf} {base : Nat} {w0 w : World} {ρ : Ren} {H : List AObj} (hc : HC base w0 ρ H w) : ∀ {ks : List C0} {args us : List Value} {k : List CA → Out}, (toCA H ks args k).sat Φ → RL ρ args us →
    ∃ cas ps, (k cas).sat Φ ∧ (PlA w cas ps ∧ KindA ks cas) ∧ ∀ ρ' i, (∀ j, j < ps.length → ∃ p, ps[j]? = some p ∧ ρ' (i + j) = some p) → RL ρ' (canonA i cas) us
  | [], [], us, k, h, hr => by have := hr.nil_inv; subst this; exact ⟨[], [], h, ⟨trivial, trivial⟩, fun ρ' i _ => .nil ρ'⟩
  | .val :: ks, v :: vs, us, k, h, hr => by
    obtain ⟨u, us', rfl, h1, h2⟩ := hr.cons_inv
    unfold toCA at h
    split at h
    · rename_i hcl
      obtain ⟨cas, ps, g1, ⟨g2, gk⟩, g3⟩ := toCA_ok hc h h2
      refine ⟨_, ps, g1, ⟨g2, hcl, gk⟩, fun ρ' i hp => .cons ?_ (g3 ρ' i hp)⟩
      rw [(clean_Rn hcl).1 h1]
      exact (clean_Rn hcl).2 rfl
    · exact h.elim
  | .rows sh :: ks, v :: vs, us, k, h, hr => by
    obtain ⟨u, us', rfl, h1, h2⟩ := hr.cons_inv
    unfold toCA at h
    obtain ⟨len, g, l, e1, e2, e4⟩ := rowsOf_ok h hc h1
    obtain ⟨cas, ps, g1, ⟨g2, gk⟩, g3⟩ := toCA_ok hc e1 h2
    refine ⟨_, l :: ps, g1, ⟨⟨e2, g2⟩, rfl, gk⟩, fun ρ' i hp => .cons ?_ (g3 ρ' (i + 1) fun j hj => ?_)⟩
    · obtain ⟨p, p1, p2⟩ := hp 0 (by simp)
      simp at p1
      subst p1
      exact e4 ρ' i p2
    · obtain ⟨p, p1, p2⟩ := hp (j + 1) (by simpa using hj)
      exact ⟨p, by simpa using p1, by rw [show i + 1 + j = i + (j + 1) by omega]; exact p2⟩
  | [], _ :: _, _, _, h, _ => h.elim
  | .val :: _, [], _, _, h, _ => h.elim
  | .rows _ :: _, [], _, _, h, _ => h.elim
theorem PlA.len {w : World} : ∀ {cas : List CA} {ps : List Loc}, PlA w cas ps → (canonH cas).length = ps.length
  | [], [], _ => rfl
  | .val _ :: l, ps, h => PlA.len (cas := l) h
  | .rows .. :: l, p :: ps, h => by simp [canonH, PlA.len (cas := l) h.2]
  | [], _ :: _, h => h.elim
  | .rows .. :: _, [], h => h.elim
theorem PlA.at {w : World} : ∀ {cas : List CA} {ps : List Loc}, PlA w cas ps → ∀ (i : Nat) o, (canonH cas)[i]? = some o → ∃ sh n g p, o = .recs sh n g ∧ ps[i]? = some p ∧ RowAt w p sh n g
  | [], [], _, i, o, h => by simp [canonH] at h
  | .val _ :: l, ps, h, i, o, ho => PlA.at (cas := l) h i o ho
  | .rows sh len g :: l, p :: ps, h, 0, o, ho => by
    simp [canonH] at ho
    exact ⟨_, _, _, p, ho.symm, by simp, h.1.1⟩
  | .rows sh len g :: l, p :: ps, h, i + 1, o, ho => by
    obtain ⟨sz, n, g', p', e1, e2, e3⟩ := PlA.at (cas := l) h.2 i o (by simpa [canonH] using ho)
    exact ⟨sz, n, g', p', e1, by simpa using e2, e3⟩
  | [], _ :: _, h, _, _, _ => h.elim
  | .rows .. :: _, [], h, _, _, _ => h.elim
/-- no list is longer than memory has room for -/
def Bnd : List CA → Prop
  | [] => True
  | .val _ :: l => Bnd l
  | .rows _ len _ :: l => len ≤ 140737488355328 ∧ Bnd l
theorem PlA.bnd {w : World} : ∀ {cas : List CA} {ps : List Loc}, PlA w cas ps → Bnd cas
  | [], [], _ => trivial
  | .val _ :: l, ps, h => PlA.bnd (cas := l) (ps := ps) h
  | .rows .. :: l, _ :: _, h => ⟨h.1.2, PlA.bnd (cas := l) h.2⟩
  | [], _ :: _, h => h.elim
  | .rows .. :: _, [], h => h.elim
theorem kind_rows : ∀ {ks : List C0} {cas : List CA} {i : Nat} {sh sh' : List LK} {m : Nat} {g : Nat → List Value}, KindA ks cas → nthL ks i = some (.rows sh) → nthL cas i = some (.rows sh' m g) → sh' = sh
  | [], _, _, _, _, _, _, _, h1, _ => by cases h1
  | _ :: _, [], _, _, _, _, _, _, _, h2 => by cases h2
  | k :: ks, c :: cas, 0, _, _, _, _, h, h1, h2 => by
    cases h1
    cases h2
    exact h.1
  | k :: ks, c :: cas, i + 1, _, _, _, _, h, h1, h2 => by
    have hr : KindA ks cas := by cases k <;> cases c <;> first | exact h.2 | exact h.elim
    exact kind_rows (i := i) hr h1 h2
theorem bnd_rows : ∀ {cas : List CA} {i : Nat} {sh : List LK} {m : Nat} {g : Nat → List Value}, Bnd cas → nthL cas i = some (.rows sh m g) → m ≤ 140737488355328
  | [], _, _, _, _, _, h => by cases h
  | .val _ :: cas, 0, _, _, _, _, h => by cases h
  | .rows _ _ _ :: cas, 0, _, _, _, hb, h => by cases h; exact hb.1
  | .val _ :: cas, i + 1, _, _, _, hb, h => bnd_rows (cas := cas) (i := i) hb h
  | .rows _ _ _ :: cas, i + 1, _, _, _, hb, h => bnd_rows (cas := cas) (i := i) hb.2 h
/-- the lists that a function alone sees, as memory -/
theorem HC.canon {w w' : World} {cas : List CA} {ps : List Loc} (h : PlA w cas ps) (hb : Below w.heap.size w w') : HC w'.heap.size w' (fun i => ps[i]?) (canonH cas) w' := by
  refine ⟨Below.refl _ _, Nat.le_refl _, fun i o ho => ?_, fun i l e => ?_, fun i b s z e => ?_, fun i j o1 b s z c s' z' o h1 ho1 => ?_⟩
  · obtain ⟨sz, n, g, p, rfl, e2, e3, e4⟩ := h.at i o ho
    refine ⟨p, e2, fun b s z e => (e3 b s z e).1, ?_⟩
    rcases e4 with h0 | ⟨b, s, q, e, h1⟩
    · exact .inl h0
    · exact .inr ⟨b, s, q, e, fun k hk => (h1 k hk).below hb (e3 b s _ e).2⟩
  · rw [h.len]; exact (List.getElem?_eq_some_iff.1 e).1
  · have hi : i < (canonH cas).length := by rw [h.len]; exact (List.getElem?_eq_some_iff.1 e).1
    obtain ⟨sz, n, g, p, _, e2, e3, _⟩ := h.at i _ (List.getElem?_eq_getElem hi)
    have e' : ps[i]? = some (some (b, s, z)) := e
    rw [e2] at e'
    cases e'
    exact Nat.lt_of_lt_of_le (e3 b s z rfl).2 hb.size
  · obtain ⟨sz, n, g, p, rfl, _⟩ := h.at i _ h1
    cases ho1
/-- a function's loop -/
def bodyOf (fn : Func) (i : Nat) : Code := match fn.body with | some c => (nthL (loops c) i).getD .skip | none => .skip
theorem one_loop {P : Program} {fn : Func} {b : Code} (h : (fn.body.map loops) = some [b]) {L : Nat → Option LCon} (hL : ∀ F, L (key b) = some F → LOk P b F) : ∀ c, fn.body = some c → ∀ c' ∈ loops c, ∀ F, L (key c') = some F → LOk P c' F := fun c hc c' hc' => by
  rw [hc] at h
  simp only [Option.map_some, Option.some.injEq] at h
  rw [h] at hc'
  rw [List.mem_singleton.1 hc']
  exact hL
theorem two_loops {P : Program} {fn : Func} {b1 b2 : Code} (h : (fn.body.map loops) = some [b1, b2]) {L : Nat → Option LCon} (h1 : ∀ F, L (key b1) = some F → LOk P b1 F) (h2 : ∀ F, L (key b2) = some F → LOk P b2 F) : ∀ c, fn.body = some c → ∀ c' ∈ loops c, ∀ F, L (key c') = some F → LOk P c' F := fun c hc c' hc' => by
  rw [hc] at h
  simp only [Option.map_some, Option.some.injEq] at h
  rw [h] at hc'
  rcases List.mem_cons.1 hc' with rfl | hc'
  · exact h1
  · rw [List.mem_singleton.1 hc']; exact h2
def oneL (n : Nat) (F : LCon) : Nat → Option LCon := fun m => match Nat.beq m n with | true => some F | false => none
def addL (L : Nat → Option LCon) (n : Nat) (F : LCon) : Nat → Option LCon := fun m => match Nat.beq m n with | true => some F | false => L m
theorem sat_ask {Φ : Lf} {p : Prop} {o : Out} (h1 : p) (h2 : o.sat Φ) : (Out.ask p o).sat Φ := ⟨h1, h2⟩
theorem det_toCA (H : List AObj) : ∀ (ks : List C0) (args : List Value), Det (toCA H ks args)
  | [], [], k, Φ, h => ⟨[], h, fun _ _ h' => h'⟩
  | .val :: ks, v :: vs, k, Φ, h => by
    unfold toCA at h
    split at h
    · rename_i hc
      obtain ⟨l, h1, h2⟩ := det_toCA H ks vs _ _ h
      exact ⟨_, h1, fun k' Φ' h' => by unfold toCA; simp only [hc]; exact h2 _ _ h'⟩
    · exact h.elim
  | .rows sh :: ks, v :: vs, k, Φ, h => by
    unfold toCA at h
    obtain ⟨len, g, h1, h2⟩ := det_rowsOf H sh v _ _ h
    obtain ⟨l, h3, h4⟩ := det_toCA H ks vs _ _ h1
    exact ⟨_, h3, fun k' Φ' h' => by unfold toCA; exact h2 _ _ (h4 _ _ h')⟩
  | [], _ :: _, _, _, h => h.elim
  | .val :: _, [], _, _, h => h.elim
  | .rows _ :: _, [], _, _, h => h.elim
/-- what is handed in, as the function alone sees it -/
def argsC (ks : List CK) (args : List Value) (H : List AObj) (k : List CA → Out) : Out :=
  match flatV ks args with
  | some fl => toCA H (flatK ks) fl k
  | none => .bad
theorem det_argsC (ks : List CK) (args : List Value) (H : List AObj) : Det (argsC ks args H) := fun k Φ h => by
  unfold argsC at h
  split at h
  · rename_i fl hf
    obtain ⟨l, h1, h2⟩ := det_toCA H _ _ _ _ h
    exact ⟨l, h1, fun k' Φ' h' => by unfold argsC; simp only [hf]; exact h2 _ _ h'⟩
  · exact h.elim
theorem argsC_ok {Φ : Lf} {base : Nat} {w0 w : World} {ρ : Ren} {H : List AObj} (hc : HC base w0 ρ H w) {ks : List CK} {args us : List Value} {k : List CA → Out} (h : (argsC ks args H k).sat Φ) (hr : RL ρ args us) :
    ∃ cas ps, (k cas).sat Φ ∧ (PlA w cas ps ∧ KindA (flatK ks) cas) ∧ ∀ ρ', (∀ j, j < ps.length → ∃ p, ps[j]? = some p ∧ ρ' j = some p) → RL ρ' (regr ks (canonA 0 cas)) us := by
  unfold argsC at h
  split at h
  · rename_i fl hf
    obtain ⟨ful, g1, g2⟩ := flat_ok hf hr
    obtain ⟨cas, ps, q1, q2, q3⟩ := toCA_ok hc h g1
    exact ⟨cas, ps, q1, q2, fun ρ' hp => g2 ρ' _ (q3 ρ' 0 fun j hj => by rw [Nat.zero_add]; exact hp j hj)⟩
  · exact h.elim
/-- a contract of a function that only reads, and answers a plain value; it may ask something of what it is handed -/
def listA (ks : List CK) (A : List CA → Prop) (G : List CA → Option Value) : QCon := fun args H k => argsC ks args H fun l => .ask (A l) (match G l with | some r => k r | none => .bad)
def listC (ks : List CK) (G : List CA → Option Value) : QCon := fun args H k => argsC ks args H fun l => (match G l with | some r => k r | none => .bad)
theorem det_listA (ks : List CK) (A : List CA → Prop) (G : List CA → Option Value) (args : List Value) (H : List AObj) : Det (listA ks A G args H) := fun k Φ h => by
  unfold listA at h
  obtain ⟨l, ⟨h0, h1⟩, h2⟩ := det_argsC ks args H _ _ h
  split at h1
  · rename_i r hg
    exact ⟨r, h1, fun k' Φ' h' => h2 _ _ ⟨h0, by simp only [hg]; exact h'⟩⟩
  · exact h1.elim
theorem list_qA {Kn : Kn} (hK : Kn.Ok) {L : Nat → Option LCon} {f : FuncId} {fn : Func} (hf : Kn.P.funcs[f]? = some fn) (hn : (fn.name == "runtime.NumGoroutine") = false) (hb : fn.body.isNone = false)
    (hL : ∀ c, fn.body = some c → ∀ c' ∈ loops c, ∀ F, L (key c') = some F → LOk Kn.P c' F) {ks : List CK} {A : List CA → Prop} {G : List CA → Option Value}
    (hG : ∀ cas r, Bnd cas → KindA (flatK ks) cas → A cas → G cas = some r → clean r = true ∧ (evV Kn L fn (regr ks (canonA 0 cas)) (canonH cas)).sat fun _ S => S.slots = [some r]) : QOk Kn.P f (listA ks A G) := by
  refine ⟨enter_ok hf hn hb, det_listA ks A G, fun Φ args H k h base w0 ρ w us hc hr => ?_⟩
  unfold listA at h
  obtain ⟨cas, ps, ⟨g0, g1⟩, ⟨g2, gk⟩, g3⟩ := argsC_ok hc h hr
  split at g1
  · rename_i r hg
    obtain ⟨h1, h2⟩ := hG cas r g2.bnd gk g0 hg
    refine ⟨r, r, g1, (clean_Rn h1).2 rfl, fun w' hw' => ?_⟩
    have hH := HC.canon g2 hw'
    have hA := g3 (fun i => ps[i]?) fun j hj => ⟨ps[j], List.getElem?_eq_getElem hj, List.getElem?_eq_getElem hj⟩
    exact evV_ok hK hf hL h2 hH hA fun H' ρ' w2 u hc2 _ hr2 => ⟨by rw [(clean_Rn h1).1 hr2], hc2.below⟩
  · exact g1.elim
theorem list_q {Kn : Kn} (hK : Kn.Ok) {L : Nat → Option LCon} {f : FuncId} {fn : Func} (hf : Kn.P.funcs[f]? = some fn) (hn : (fn.name == "runtime.NumGoroutine") = false) (hb : fn.body.isNone = false)
    (hL : ∀ c, fn.body = some c → ∀ c' ∈ loops c, ∀ F, L (key c') = some F → LOk Kn.P c' F) {ks : List CK} {G : List CA → Option Value}
    (hG : ∀ cas r, Bnd cas → KindA (flatK ks) cas → G cas = some r → clean r = true ∧ (evV Kn L fn (regr ks (canonA 0 cas)) (canonH cas)).sat fun _ S => S.slots = [some r]) : QOk Kn.P f (listC ks G) := by
  have hA := list_qA hK hf hn hb hL (A := fun _ => True) (G := G) (ks := ks) fun cas r h1 h2 _ h3 => hG cas r h1 h2 h3
  have key : ∀ {args H} {k : Value → Out} {Φ : Lf}, (listC ks G args H k).sat Φ → (listA ks (fun _ => True) G args H k).sat Φ := fun {args H k Φ} h => by
    unfold listC at h
    obtain ⟨l, h1, h2⟩ := det_argsC ks args H _ _ h
    exact h2 _ _ ⟨trivial, h1⟩
  refine ⟨hA.1, fun args H k Φ h => ?_, fun Φ args H k h => hA.2.2 Φ args H k (key h)⟩
  unfold listC at h
  obtain ⟨l, h1, h2⟩ := det_argsC ks args H _ _ h
  split at h1
  · rename_i r hg
    exact ⟨r, h1, fun k' Φ' h' => h2 _ _ (by simp only [hg]; exact h')⟩
  · exact h1.elim
end Go.Proofs.Ytpkckgdpdnkbeaa
