/- Contracts for a symbolic run: functions that hand out lists; functions as they are written. -/
import Derived.Test.YtpkckgdpdnkbeaaZm
namespace Go.Proofs.Ytpkckgdpdnkbeaa
open Go.RowKit
/-- a part of what is handed out: a plain value; a new list; a new map -/
inductive RC where
  | val (v : Value)
  | rows (e : TypeId) (sh : List LK) (n : Nat) (g : Nat → List Value)
  | mp (es : List MapEntry) (clock : Nat)
def resV : Nat → List RC → List Value
  | _, [] => []
  | i, .val v :: l => v :: resV i l
  | i, .rows _ _ n _ :: l => .slice (some ⟨i, 0, some 0⟩) n n :: resV (i + 1) l
  | i, .mp _ _ :: l => .map (some i) :: resV (i + 1) l
def resO : List RC → List AObj
  | [] => []
  | .val _ :: l => resO l
  | .rows e sh n g :: l => .row e sh n g :: resO l
  | .mp es c :: l => .mp es c :: resO l
def resR (rk : List CK) (rs : List RC) : FRes := (fun id => oneOf (regr rk (resV id rs)), resO rs)
theorem resO_flat : ∀ rs : List RC, allO flatO (resO rs) = true
  | [] => rfl
  | .val _ :: l => resO_flat l
  | .rows .. :: l => by simp [resO, allO, flatO, resO_flat l]
  | .mp .. :: l => by simp [resO, allO, flatO, resO_flat l]
/-- are these parts handed out? -/
def matchR (H : List AObj) : List Nat → List Value → List RC → Out
  | _, [], [] => .done .ret ⟨[], []⟩
  | used, v :: vs, .val x :: rs => (match clean x with | true => .ask (v = x) (matchR H used vs rs) | false => .bad)
  | used, v :: vs, .rows e sh n g :: rs => (match v with
    | .slice (some ⟨i, 0, some 0⟩) l _ => (match nthL H i with
      | some (.row e' sh' n' g') => (match Nat.beq e' e && shEq sh' sh && !(memN i used) with
        | true => .ask (l = n ∧ l ≤ n' ∧ ∀ j, j < n → norm sh (g' j) = norm sh (g j)) (matchR H (i :: used) vs rs)
        | false => .bad)
      | _ => .bad)
    | .slice none l c => (match Nat.beq l 0 && Nat.beq c 0 with
      | true => .ask (n = 0) (matchR H used vs rs)
      | false => .bad)
    | _ => .bad)
  | used, v :: vs, .mp es c :: rs => (match v with
    | .map (some i) => (match nthL H i with
      | some (.mp es' c') => (match memN i used with
        | true => .bad
        | false => .ask (es' = es ∧ c' = c) (matchR H (i :: used) vs rs))
      | _ => .bad)
    | _ => .bad)
  | _, _, _ => .bad
theorem flat_norm (sh : List LK) {f g : Nat → List Value} : ∀ n, (∀ j, j < n → norm sh (f j) = norm sh (g j)) → flat sh n f = flat sh n g
  | 0, _ => rfl
  | n + 1, h => by rw [flat_succ, flat_succ, flat_norm sh n fun j hj => h j (by omega), h n (by omega)]
structure ResOk (b0 : Nat) (w : World) (ρ : Ren) (H : List AObj) (used : List Nat) (rs : List RC) (us : List Value) (ls : List Loc) : Prop where
  len : ls.length = (resO rs).length
  obj : ∀ (j : Nat) o, (resO rs)[j]? = some o → ∃ l, ls[j]? = some l ∧ ∀ ρ' i, ρ' i = some l → OC b0 ρ' w i o
  blk : ∀ (j : Nat) b s z, ls[j]? = some (some (b, s, z)) → b0 ≤ b ∧ b < w.heap.size ∧ ∃ i s' z' o, i ∉ used ∧ ρ i = some (some (b, s', z')) ∧ H[i]? = some o ∧ o.own = true
  apart : ∀ (i j : Nat) b s z c s' z', ls[i]? = some (some (b, s, z)) → ls[j]? = some (some (c, s', z')) → i ≠ j → b ≠ c
  val : ∀ ρ' id, (∀ (j : Nat) l, ls[j]? = some l → ρ' (id + j) = some l) → RL ρ' (resV id rs) us
theorem ResOk.cons {b0 : Nat} {w0 w : World} {ρ : Ren} {H : List AObj} (hc : HC b0 w0 ρ H w) {used : List Nat} {rs : List RC} {us : List Value} {ls : List Loc} {i : Nat} (h : ResOk b0 w ρ H (i :: used) rs us ls) {r : RC} {o oi : AObj} {u : Value} {l : Loc} (ho : resO (r :: rs) = o :: resO rs) (hv : ∀ id, resV id (r :: rs) = (resV id [r]) ++ resV (id + 1) rs)
    (hi : H[i]? = some oi) (hown : oi.own = true) (hu : i ∉ used) (hoc : ∀ ρ' i, ρ' i = some l → OC b0 ρ' w i o) (hl : ∀ b s z, l = some (b, s, z) → b0 ≤ b ∧ b < w.heap.size ∧ ∃ s' z', ρ i = some (some (b, s', z')))
    (hval : ∀ ρ' id, ρ' id = some l → RL ρ' (resV id [r]) [u]) : ResOk b0 w ρ H used (r :: rs) (u :: us) (l :: ls) := by
  refine ⟨by rw [ho]; simp [h.len], ?_, ?_, ?_, ?_⟩
  · intro j x hj
    rw [ho] at hj
    cases j with
    | zero => simp at hj; subst hj; exact ⟨l, rfl, hoc⟩
    | succ j => obtain ⟨l', e1, e2⟩ := h.obj j x (by simpa using hj); exact ⟨l', by simpa using e1, e2⟩
  · intro j b s z hj
    cases j with
    | zero =>
      simp at hj
      obtain ⟨h1, h2, s', z', h3⟩ := hl b s z hj
      exact ⟨h1, h2, i, s', z', oi, hu, h3, hi, hown⟩
    | succ j =>
      obtain ⟨h1, h2, i', s', z', o', h3, h4⟩ := h.blk j b s z (by simpa using hj)
      exact ⟨h1, h2, i', s', z', o', fun e => h3 (List.mem_cons_of_mem _ e), h4⟩
  · have key : ∀ (j : Nat) b s z c s' z', l = some (b, s, z) → ls[j]? = some (some (c, s', z')) → b ≠ c := fun j b s z c s' z' e1 e2 => by
      obtain ⟨_, _, s1, z1, h3⟩ := hl b s z e1
      obtain ⟨_, _, i', s2, z2, o', h4, h5, h6, h7⟩ := h.blk j c s' z' e2
      exact hc.apart i i' oi b s1 z1 c s2 z2 o' hi hown h6 (fun e => by subst e; cases h7) h3 h5 fun e => h4 (by rw [e]; exact List.mem_cons_self ..)
    intro j1 j2 b s z c s' z' e1 e2 hne
    cases j1 with
    | zero =>
      cases j2 with
      | zero => exact absurd rfl hne
      | succ j2 => simp at e1 e2; exact key j2 b s z c s' z' e1 e2
    | succ j1 =>
      cases j2 with
      | zero => simp at e1 e2; exact (key j1 c s' z' b s z e2 e1).symm
      | succ j2 => simp at e1 e2; exact h.apart j1 j2 b s z c s' z' e1 e2 (by omega)
  · intro ρ' id hp
    rw [hv]
    have h1 := hval ρ' id (hp 0 l (by simp))
    have h2 := h.val ρ' (id + 1) fun j l' hj => by rw [show id + 1 + j = id + (j + 1) by omega]; exact hp (j + 1) l' (by simpa using hj)
    exact h1.append h2
theorem matchR_ok {Φ : Lf} {b0 : Nat} {w0 w : World} {ρ : Ren} {H : List AObj} (hc : HC b0 w0 ρ H w) : ∀ {rs : List RC} {used : List Nat} {vs us : List Value}, (matchR H used vs rs).sat Φ → RL ρ vs us → ∃ ls, ResOk b0 w ρ H used rs us ls
  | [], used, [], us, h, hr => by
    have := hr.nil_inv
    subst this
    exact ⟨[], rfl, fun j o hj => by simp [resO] at hj, fun j b s z hj => by simp at hj, fun i j b s z c s' z' hi => by simp at hi, fun ρ' id _ => .nil ρ'⟩
  | .val x :: rs, used, v :: vs, us, h, hr => by
    obtain ⟨u, us', rfl, h1, h2⟩ := hr.cons_inv
    unfold matchR at h
    split at h
    · rename_i hcl
      obtain ⟨rfl, h⟩ := h
      obtain ⟨ls, g⟩ := matchR_ok hc h h2
      have := (clean_Rn hcl).1 h1
      subst this
      exact ⟨ls, g.len, g.obj, g.blk, g.apart, fun ρ' id hp => .cons ((clean_Rn hcl).2 rfl) (g.val ρ' id hp)⟩
    · exact h.elim
  | .rows e sh n g :: rs, used, v :: vs, us, h, hr => by
    obtain ⟨u, us', rfl, h1, h2⟩ := hr.cons_inv
    unfold matchR at h
    split at h
    · rename_i i l c
      split at h
      · rename_i e' sh' n' g' hi
        rw [nthL_eq] at hi
        split at h
        · rename_i hb
          simp only [Bool.and_eq_true, Nat.beq_eq, Bool.not_eq_eq_eq_not, Bool.not_true] at hb
          obtain ⟨⟨rfl, hsh⟩, hus⟩ := hb
          have := shEq_eq hsh
          subst this
          obtain ⟨⟨rfl, hle, hg⟩, h⟩ := h
          obtain ⟨ls, gg⟩ := matchR_ok hc h h2
          have hnu : i ∉ used := fun hm => by rw [memN_iff.2 hm] at hus; cases hus
          obtain ⟨l0, q1, q0, q2⟩ := hc.obj i _ hi
          rcases h1.sliceA with ⟨b, s, z, c', hm, hlc, hcc, _, hq, rfl⟩ | ⟨rfl, rfl, ad, rfl⟩
          · rw [hm] at q1
            cases q1
            obtain ⟨z1, z2⟩ := z
            obtain ⟨rfl, hz⟩ := q0 b s _ rfl
            simp only at hz
            subst hz
            have e1 := hq 0 rfl
            simp only [Nat.zero_add] at e1
            subst e1
            have hp := own_prefix q2 hle
            have hp' : w.ownsRow b0 e' sh'.length (rowV (some (b, 0, sh'.length, c')) l) l (flat sh' l g) := by
              rw [← flat_norm sh' l hg]
              exact hp
            refine ⟨_, gg.cons hc (l := some (b, 0, sh'.length, c')) rfl (fun id => rfl) hi rfl hnu (fun ρ' i' e => ⟨_, e, fun b' s' z' e => (by cases e; exact ⟨rfl, rfl⟩), hp'⟩) (fun b' s' z' e => ?_) fun ρ' id e => .cons ?_ (.nil ρ')⟩
            · cases e
              exact ⟨(hp.lt b rfl).1, hc.lt i b 0 _ hm, 0, _, hm⟩
            · have := Rn.sliceR (ρ := ρ') (i := id) (o := 0) (r := 0) l l c' e (Nat.le_refl _) (by omega) (by simp)
              simpa [placeOf] using this
          · refine ⟨_, gg.cons hc (l := none) rfl (fun id => rfl) hi rfl hnu (fun ρ' i' e => ⟨_, e, fun b' s' z' e => (by cases e), World.ownsRow_nil _ _ _ _⟩) (fun b' s' z' e => by cases e) fun ρ' id e => .cons (.sliceE rfl rfl) (.nil ρ')⟩
        · exact h.elim
      · exact h.elim
    · rename_i l c
      split at h
      · rename_i hb
        rw [Bool.and_eq_true, Nat.beq_eq, Nat.beq_eq] at hb
        obtain ⟨rfl, rfl⟩ := hb
        obtain ⟨rfl, h⟩ := h
        obtain ⟨ls, gg⟩ := matchR_ok hc h h2
        have hu : ∃ ad, u = .slice ad 0 0 := by cases h1 <;> exact ⟨_, rfl⟩
        obtain ⟨ad, rfl⟩ := hu
        refine ⟨none :: ls, by simp [resO, gg.len], ?_, ?_, ?_, ?_⟩
        · intro j x hj
          cases j with
          | zero => simp [resO] at hj; subst hj; exact ⟨none, rfl, fun ρ' i e => ⟨none, e, fun b s z e => (by cases e), World.ownsRow_nil _ _ _ _⟩⟩
          | succ j => obtain ⟨l', e1, e2⟩ := gg.obj j x (by simpa [resO] using hj); exact ⟨l', by simpa using e1, e2⟩
        · intro j b s z hj
          cases j with
          | zero => simp at hj
          | succ j => exact gg.blk j b s z (by simpa using hj)
        · intro j1 j2 b s z c s' z' e1 e2 hne
          cases j1 with
          | zero => simp at e1
          | succ j1 =>
            cases j2 with
            | zero => simp at e2
            | succ j2 => simp at e1 e2; exact gg.apart j1 j2 b s z c s' z' e1 e2 (by omega)
        · intro ρ' id hp
          exact .cons (.sliceE rfl rfl) (gg.val ρ' (id + 1) fun j l' hj => by rw [show id + 1 + j = id + (j + 1) by omega]; exact hp (j + 1) l' (by simpa using hj))
      · exact h.elim
    · exact h.elim
  | .mp es c :: rs, used, v :: vs, us, h, hr => by
    obtain ⟨u, us', rfl, h1, h2⟩ := hr.cons_inv
    unfold matchR at h
    split at h
    · rename_i i
      split at h
      · rename_i es' c' hi
        rw [nthL_eq] at hi
        split at h
        · exact h.elim
        · rename_i hus
          obtain ⟨⟨rfl, rfl⟩, h⟩ := h
          obtain ⟨ls, gg⟩ := matchR_ok hc h h2
          have hnu : i ∉ used := fun hm => by rw [memN_iff.2 hm] at hus; cases hus
          obtain ⟨b, q1, q2, q3, q4⟩ := hc.obj i _ hi
          cases h1 with
          | map hm =>
            rw [hm] at q1
            cases q1
            refine ⟨_, gg.cons hc (l := some (b, 0, 0, 0)) rfl (fun id => rfl) hi rfl hnu (fun ρ' i' e => ⟨b, e, q2, q3, q4⟩) (fun b' s' z' e => ?_) fun ρ' id e => .cons (.map e) (.nil ρ')⟩
            cases e
            exact ⟨q2, hc.lt i _ _ _ hm, _, _, hm⟩
      · exact h.elim
    · exact h.elim
  | [], _, _ :: _, _, h, _ => h.elim
  | .val _ :: _, _, [], _, h, _ => h.elim
  | .rows .. :: _, _, [], _, h, _ => h.elim
  | .mp .. :: _, _, [], _, h, _ => h.elim
/-- a function's end: what it hands out -/
def finR (P : Program) (fn : Func) (rk : List CK) (rs : List RC) (e : AE) (S : ASt) : Out :=
  match e with
  | .exit _ => .bad
  | .normal => (match resL P S fn.results.toList with
    | some vs => (match flatV rk vs with | some fl => matchR S.heap [] fl rs | none => .bad)
    | none => .bad)
  | .ret => (match resL P S fn.results.toList with
    | some vs => (match flatV rk vs with | some fl => matchR S.heap [] fl rs | none => .bad)
    | none => .bad)
/-- A RUN OF A FUNCTION that is held against what it is to hand out -/
def evR (Kn : Kn) (L : Nat → Option LCon) (fn : Func) (args : List Value) (H : List AObj) (rk : List CK) (rs : List RC) : Out :=
  match fn.body with
  | some c => ev Kn L c ⟨someL args ++ repO (fn.ntmps - args.length), H⟩ (finR Kn.P fn rk rs)
  | none => .bad
theorem oneOf_RL {ρ : Ren} {vs us : List Value} (h : RL ρ vs us) : Rn ρ (oneOf vs) (if hu : us.length = 1 then us[0] else .tuple ⟨us⟩) := by
  match vs, us, h with
  | [], us, h => have := h.nil_inv; subst this; exact Rn.tupRL h
  | [v], us, h =>
    obtain ⟨u, us', rfl, h3, h4⟩ := h.cons_inv
    have := h4.nil_inv
    subst this
    exact h3
  | v :: v' :: vs, us, h =>
    have : us.length ≠ 1 := by rw [← h.1]; simp
    rw [dif_neg this]
    exact Rn.tupRL h
theorem fin_okL {P : Program} {fn : Func} {base : Nat} {w0 w : World} {ρ : Ren} {S : ASt} {a : Act} {vs : List Value} (hc : HC base w0 ρ S.heap w) (hs : SC ρ S.slots a) (h : resL P S fn.results.toList = some vs) :
    ∃ us, RL ρ vs us ∧ (results fn a.tmps).run P w = .ok (if hu : us.length = 1 then us[0] else .tuple ⟨us⟩) w := by
  obtain ⟨us, h1, h2⟩ := resL_ok hc hs _ vs h
  refine ⟨us, h1, ?_⟩
  have hm : (fn.results.mapM (resVar a.tmps)).run P w = .ok ⟨us⟩ w := by
    have : fn.results = ⟨fn.results.toList⟩ := rfl
    rw [this, List.mapM_toArray, Sem.run_map, h2]
    rfl
  have hres : results fn a.tmps = (do let vs ← fn.results.mapM (resVar a.tmps); pure (if h : vs.size = 1 then vs[0] else .tuple vs)) := by
    unfold results
    congr 2
  rw [hres, Sem.run_bind, hm]
  rfl
/-- what a function hands out -/
def listF (ks rk : List CK) (A : List CA → Prop) (G : List CA → Option (List RC)) : FCon := fun args H k => argsC ks args H fun l => .ask (A l) (match G l with | some rs => (match Nat.ble (resO rs).length 6 with | true => k (resR rk rs) | false => .bad) | none => .bad)
theorem det_listF (ks rk : List CK) (A : List CA → Prop) (G : List CA → Option (List RC)) (args : List Value) (H : List AObj) : Det (listF ks rk A G args H) := fun k Φ h => by
  unfold listF at h
  obtain ⟨l, ⟨h0, h1⟩, h2⟩ := det_argsC ks args H _ _ h
  split at h1
  · rename_i rs hg
    split at h1
    · rename_i hb
      exact ⟨_, h1, fun k' Φ' h' => h2 _ _ ⟨h0, by simp only [hg, hb]; exact h'⟩⟩
    · exact h1.elim
  · exact h1.elim
theorem list_f {Kn : Kn} (hK : Kn.Ok) {L : Nat → Option LCon} {f : FuncId} {fn : Func} (hf : Kn.P.funcs[f]? = some fn) (hn : (fn.name == "runtime.NumGoroutine") = false) (hb : fn.body.isNone = false)
    (hL : ∀ c, fn.body = some c → ∀ c' ∈ loops c, ∀ F, L (key c') = some F → LOk Kn.P c' F) {ks rk : List CK} {A : List CA → Prop} {G : List CA → Option (List RC)}
    (hG : ∀ cas rs, Bnd cas → KindA (flatK ks) cas → A cas → G cas = some rs → (evR Kn L fn (regr ks (canonA 0 cas)) (canonH cas) rk rs).sat fun _ _ => True) : FOk Kn.P f (listF ks rk A G) := by
  refine ⟨enter_ok hf hn hb, det_listF ks rk A G, fun Φ args H k h base w0 ρ w us hc hr => ?_⟩
  unfold listF at h
  obtain ⟨cas, ps, ⟨g0, g1⟩, ⟨g2, gk⟩, g3⟩ := argsC_ok hc h hr
  split at g1
  · rename_i rs hg
    split at g1
    · rename_i hb6
      rw [Nat.ble_eq] at hb6
      have hrun := hG cas rs g2.bnd gk g0 hg
      refine ⟨_, g1, hb6, resO_flat rs, fun w' hw' => ?_⟩
      have hH := HC.canon g2 hw'
      have hA := g3 (fun i => ps[i]?) fun j hj => ⟨ps[j], List.getElem?_eq_getElem hj, List.getElem?_eq_getElem hj⟩
      unfold evR at hrun
      split at hrun
      · rename_i c hbo
        refine calls_of_wp hf hbo (ev_ok hK c (hL c hbo) _ _ _ _ w' _ hrun hH (slots_ok hA fn.ntmps) fun e S' ρ' a' w2 q1 q2 q3 q4 => ?_)
        have key : ∀ vs fl, resL Kn.P S' fn.results.toList = some vs → flatV rk vs = some fl → (matchR S'.heap [] fl rs).sat (fun _ _ => True) → a'.defers = [] ∧ ∃ v, (results fn a'.tmps).run Kn.P w2 = .ok v w2 ∧ (∃ u, ∃ ls : List Loc, Ending.returned v = .returned u ∧ HC w'.heap.size w' (fun i => ls[i]?) (resO rs) w2 ∧ (∀ (j : Nat) b s z, ls[j]? = some (some (b, s, z)) → w'.heap.size ≤ b) ∧ ∀ ρ' id, (∀ j l, ls[j]? = some l → ρ' (id + j) = some l) → Rn ρ' (oneOf (regr rk (resV id rs))) u) := fun vs fl e1 e2 e3 => by
          obtain ⟨us2, f1, f2⟩ := fin_okL q2 q3 e1
          obtain ⟨ful, f3, f4⟩ := flat_ok e2 f1
          obtain ⟨ls, gg⟩ := matchR_ok q2 e3 f3
          refine ⟨q3.1, _, f2, _, ls, rfl, ⟨q2.below, q2.floor, fun j o hj => ?_, fun j l hj => ?_, fun j b s z hj => (gg.blk j b s z hj).2.1, fun i j o1 b s z c s' z' o h1 ho1 h2 hgn e1 e2 hne => gg.apart i j b s z c s' z' e1 e2 hne⟩, fun j b s z hj => (gg.blk j b s z hj).1, fun ρ2 id hp => oneOf_RL (f4 ρ2 _ (gg.val ρ2 id hp))⟩
          · obtain ⟨l, l1, l2⟩ := gg.obj j o hj
            exact l2 _ j l1
          · rw [← gg.len]
            exact (List.getElem?_eq_some_iff.1 hj).1
        unfold finR at q1
        cases e with
        | exit n => exact q1.elim
        | normal =>
          simp only at q1
          split at q1
          · rename_i vs hv
            split at q1
            · rename_i fl hfl; exact key vs fl hv hfl q1
            · exact q1.elim
          · exact q1.elim
        | ret =>
          simp only at q1
          split at q1
          · rename_i vs hv
            split at q1
            · rename_i fl hfl; exact key vs fl hv hfl q1
            · exact q1.elim
          · exact q1.elim
      · exact hrun.elim
    · exact g1.elim
  · exact g1.elim
theorem sat_end : (Out.done .ret ⟨[], []⟩).sat (fun _ _ => True) := trivial
/-- what a function hands out, whatever it is handed -/
def listG (ks rk : List CK) (G : List CA → Option (List RC)) : FCon := fun args H k => argsC ks args H fun l => (match G l with | some rs => (match Nat.ble (resO rs).length 6 with | true => k (resR rk rs) | false => .bad) | none => .bad)
theorem list_g {Kn : Kn} (hK : Kn.Ok) {L : Nat → Option LCon} {f : FuncId} {fn : Func} (hf : Kn.P.funcs[f]? = some fn) (hn : (fn.name == "runtime.NumGoroutine") = false) (hb : fn.body.isNone = false)
    (hL : ∀ c, fn.body = some c → ∀ c' ∈ loops c, ∀ F, L (key c') = some F → LOk Kn.P c' F) {ks rk : List CK} {G : List CA → Option (List RC)}
    (hG : ∀ cas rs, Bnd cas → KindA (flatK ks) cas → G cas = some rs → (evR Kn L fn (regr ks (canonA 0 cas)) (canonH cas) rk rs).sat fun _ _ => True) : FOk Kn.P f (listG ks rk G) := by
  have hA := list_f hK hf hn hb hL (A := fun _ => True) (G := G) (ks := ks) (rk := rk) fun cas r h1 h2 _ h3 => hG cas r h1 h2 h3
  have key : ∀ {args H} {k : FRes → Out} {Φ : Lf}, (listG ks rk G args H k).sat Φ → (listF ks rk (fun _ => True) G args H k).sat Φ := fun {args H k Φ} h => by
    unfold listG at h
    obtain ⟨l, h1, h2⟩ := det_argsC ks args H _ _ h
    exact h2 _ _ ⟨trivial, h1⟩
  refine ⟨hA.1, fun args H k Φ h => ?_, fun Φ args H k h => hA.2.2 Φ args H k (key h)⟩
  unfold listG at h
  obtain ⟨l, h1, h2⟩ := det_argsC ks args H _ _ h
  split at h1
  · rename_i rs hg
    split at h1
    · rename_i hb
      exact ⟨_, h1, fun k' Φ' h' => h2 _ _ (by simp only [hg, hb]; exact h')⟩
    · exact h1.elim
  · exact h1.elim
/-- a function as it is written -/
def inl (Kn : Kn) (L : Nat → Option LCon) (fn : Func) : MCon := fun args H k =>
  match fn.body with
  | some c => ev Kn L c ⟨someL args ++ repO (fn.ntmps - args.length), H⟩ fun e S => match e with
    | .exit _ => .bad
    | .normal => (match resL Kn.P S fn.results.toList with | some vs => k (oneOf vs) S.heap | none => .bad)
    | .ret => (match resL Kn.P S fn.results.toList with | some vs => k (oneOf vs) S.heap | none => .bad)
  | none => .bad
theorem inl_ok {Kn : Kn} (hK : Kn.Ok) {L : Nat → Option LCon} {f : FuncId} {fn : Func} (hf : Kn.P.funcs[f]? = some fn) (hn : (fn.name == "runtime.NumGoroutine") = false) (hb : fn.body.isNone = false)
    (hL : ∀ c, fn.body = some c → ∀ c' ∈ loops c, ∀ F, L (key c') = some F → LOk Kn.P c' F) : MOk Kn.P f (inl Kn L fn) := by
  refine ⟨enter_ok hf hn hb, fun Φ args H k h base w0 ρ w us hc hr R hR => ?_⟩
  unfold inl at h
  split at h
  · rename_i c hbo
    refine calls_of_wp hf hbo (ev_ok hK c (hL c hbo) _ _ _ _ w _ h hc (slots_ok hr fn.ntmps) fun e S' ρ' a' w2 q1 q2 q3 q4 => ?_)
    have key : ∀ vs, resL Kn.P S' fn.results.toList = some vs → (k (oneOf vs) S'.heap).sat Φ → a'.defers = [] ∧ ∃ v, (results fn a'.tmps).run Kn.P w2 = .ok v w2 ∧ R (.returned v) w2 := fun vs e1 e2 => by
      obtain ⟨u, f1, f2⟩ := fin_ok q2 q3 e1
      exact ⟨q3.1, u, f2, hR _ _ ρ' w2 u e2 q2 q4 f1⟩
    cases e with
    | exit n => exact q1.elim
    | normal =>
      simp only at q1
      split at q1
      · rename_i vs hv; exact key vs hv q1
      · exact q1.elim
    | ret =>
      simp only at q1
      split at q1
      · rename_i vs hv; exact key vs hv q1
      · exact q1.elim
  · exact h.elim
end Go.Proofs.Ytpkckgdpdnkbeaa
