/- A symbolic run of Go code: code and functions. -/
import Derived.Test.YtpkckgdpdnkbeaaZi
namespace Go.Proofs.Ytpkckgdpdnkbeaa
open Go.RowKit
theorem ctest_ok {Φ : Lf} {S : ASt} {c : Operand} {t f : ASt → Out} {ρ : Ren} {a : Act} (h : (ctest S c t f).sat Φ) (hs : SC ρ S.slots a) :
    ∃ b S', a.eval c = .bool b ∧ (bif b then t S' else f S').sat Φ ∧ SC ρ S'.slots a ∧ S'.heap = S.heap := by
  unfold ctest at h
  split at h
  · rename_i i
    split at h
    · rename_i b hb
      have he := (clean_Rn (by rfl)).1 (hs.ev (x := .tmp i) hb)
      have hs' := hs.same hb
      rcases tst_sat h with ⟨e, h⟩ | ⟨e, h⟩
      · subst e; exact ⟨true, _, he, h, hs', rfl⟩
      · subst e; exact ⟨false, _, he, h, hs', rfl⟩
    · exact h.elim
  · exact h.elim
/-- A RUN OF CODE IS SOUND. -/
theorem ev_ok {Kn : Kn} (hK : Kn.Ok) {L : Nat → Option LCon} {Φ : Lf} {base : Nat} {w0 : World} : ∀ (c : Code), (∀ c' ∈ loops c, ∀ F, L (key c') = some F → LOk Kn.P c' F) →
    ∀ (S : ASt) (k : AE → ASt → Out) (ρ : Ren) (a : Act) (w : World) (Q : Exit → Act → World → Prop), (ev Kn L c S k).sat Φ → HC base w0 ρ S.heap w → SC ρ S.slots a →
      (∀ e S' ρ' a' w', (k e S').sat Φ → HC base w0 ρ' S'.heap w' → SC ρ' S'.slots a' → RLe ρ ρ' → Q e.up a' w') → c.wp Kn.P Q a w := by
  intro c
  induction c with
  | skip => exact fun _ S k ρ a w Q h hc hs hq => wp_skip (hq .normal S ρ a w h hc hs (RLe.refl ρ))
  | label l => exact fun _ S k ρ a w Q h hc hs hq => wp_label (hq .normal S ρ a w h hc hs (RLe.refl ρ))
  | exit n => exact fun _ S k ρ a w Q h hc hs hq => wp_exit (hq (.exit n) S ρ a w h hc hs (RLe.refl ρ))
  | ret => exact fun _ S k ρ a w Q h hc hs hq => wp_ret (hq .ret S ρ a w h hc hs (RLe.refl ρ))
  | region id ops draw =>
    intro _ S k ρ a w Q h hc hs hq
    unfold ev at h
    cases draw with
    | false => exact wp_region_list (list_ok hK ops.toList ρ S a w h hs hc fun ρ' S' a' w' g1 g2 g3 g4 => hq .normal S' ρ' a' w' g1 g3 g2 g4)
    | true =>
      simp only at h
      have quietly : (evOps (vx Kn) ops.toList ops.toList S (k .normal)).sat Φ → Region.lexB .any ops = true → (Code.region id ops true).wp Kn.P Q a w := fun h hB => by
        refine wp_region_quiet (C := fun w' => Below w.heap.size w w') hK.mixed hB ((Below.refl _ _).drew) ?_
        refine quiet_ok hK hc (Q := fun a' => ∀ w', Below w.heap.size w w' → Q .normal a' w') (fun S' a' g1 g2 g3 w' hw' => ?_) ops.toList S a h hs rfl
        exact hq .normal S' ρ a' w' g1 (by rw [g3]; exact hc.step hw') g2 (RLe.refl ρ)
      split at h
      · rename_i hB
        rw [Bool.and_eq_true] at hB
        exact quietly h hB.2
      · rewrite [evRegM_eq] at h
        refine wp_region_any hK.mixed ?_
        exact any_ok hK.v h hs (hc.step ((Below.refl _ _).drew)) fun S' ρ' a' w' g1 g2 g3 g4 => hq .normal S' ρ' a' w' g1 g3 g2 g4
  | seq x y ihx ihy =>
    intro hL S k ρ a w Q h hc hs hq
    unfold ev at h
    refine wp_seq (ihx (fun c' hc' => hL c' (List.mem_append_left _ hc')) S _ ρ a w _ h hc hs fun e S' ρ' a' w' g1 g2 g3 g4 => ?_)
    cases e with
    | normal => exact ihy (fun c' hc' => hL c' (List.mem_append_right _ hc')) S' k ρ' a' w' Q g1 g2 g3 fun e2 S2 ρ2 a2 w2 e1 e3 e4 e5 => hq e2 S2 ρ2 a2 w2 e1 e3 e4 (g4.trans e5)
    | exit n => exact hq (.exit n) S' ρ' a' w' g1 g2 g3 g4
    | ret => exact hq .ret S' ρ' a' w' g1 g2 g3 g4
  | cond c x y ihx ihy =>
    intro hL S k ρ a w Q h hc hs hq
    unfold ev at h
    obtain ⟨b, S', g1, g2, g3, g4⟩ := ctest_ok h hs
    refine wp_cond g1 ?_
    cases b with
    | true => exact ihx (fun c' hc' => hL c' (List.mem_append_left _ hc')) S' k ρ a w Q g2 (by rw [g4]; exact hc) g3 hq
    | false => exact ihy (fun c' hc' => hL c' (List.mem_append_right _ hc')) S' k ρ a w Q g2 (by rw [g4]; exact hc) g3 hq
  | block id c ih =>
    intro hL S k ρ a w Q h hc hs hq
    unfold ev at h
    refine wp_block (ih hL S _ ρ a w _ h hc hs fun e S' ρ' a' w' g1 g2 g3 g4 => ?_)
    cases e with
    | normal => exact hq .normal S' ρ' a' w' g1 g2 g3 g4
    | exit n =>
      show (if n = id then Q .normal a' w' else Q (.exit n) a' w')
      simp only at g1
      by_cases hn : n = id
      · have : Nat.beq n id = true := by rw [Nat.beq_eq]; exact hn
        rw [this] at g1
        rw [if_pos hn]
        exact hq .normal S' ρ' a' w' g1 g2 g3 g4
      · have : Nat.beq n id = false := by
          cases e : Nat.beq n id with
          | false => rfl
          | true => rw [Nat.beq_eq] at e; exact absurd e hn
        rw [this] at g1
        rw [if_neg hn]
        exact hq (.exit n) S' ρ' a' w' g1 g2 g3 g4
    | ret => exact hq .ret S' ρ' a' w' g1 g2 g3 g4
  | loop c _ =>
    intro hL S k ρ a w Q h hc hs hq
    unfold ev at h
    split at h
    · rename_i F hF
      exact hL c (by simp [loops]) F hF Φ S k h base w0 ρ a w hc hs Q hq
    · exact h.elim
  | rangeFunc f ps x y _ _ => exact fun _ S k ρ a w Q h => h.elim
  | scope c _ => exact fun _ S k ρ a w Q h => h.elim
  | goto l => exact fun _ S k ρ a w Q h => h.elim
  | refuse s => exact fun _ S k ρ a w Q h => h.elim
/-- cells of ours -/
def readO (H : List AObj) (i off n : Nat) : Option (List Value) :=
  match nthL H i with
  | some (.cells _ cs) => readN (nthL cs) off n
  | _ => none
def resL (P : Program) (S : ASt) : List ResultVar → Option (List Value)
  | [] => some []
  | .tmp t :: l => (match nthO S.slots t with
    | some v => (match resL P S l with | some vs => some (v :: vs) | none => none)
    | none => none)
  | .cell t T :: l => (match nthO S.slots t with
    | some (.pointer (some ⟨i, off, none⟩)) => (match aggSize P T with
      | some (true, n) => (match readO S.heap i off n with
        | some cs => (match resL P S l with | some vs => some (.agg ⟨cs⟩ :: vs) | none => none)
        | none => none)
      | some (false, _) => (match readO S.heap i off 1 with
        | some (c :: _) => (match resL P S l with | some vs => some (c :: vs) | none => none)
        | _ => none)
      | none => none)
    | _ => none)
def oneOf : List Value → Value
  | [v] => v
  | vs => .tuple ⟨vs⟩
/-- a function's end -/
def fin (P : Program) (fn : Func) (e : AE) (S : ASt) : Out :=
  match e with
  | .exit _ => .bad
  | .normal => (match resL P S fn.results.toList with | some vs => .done .ret ⟨[some (oneOf vs)], S.heap⟩ | none => .bad)
  | .ret => (match resL P S fn.results.toList with | some vs => .done .ret ⟨[some (oneOf vs)], S.heap⟩ | none => .bad)
def repO : Nat → List (Option Value)
  | 0 => []
  | n + 1 => some undef :: repO n
def someL : List Value → List (Option Value)
  | [] => []
  | v :: l => some v :: someL l
/-- A RUN OF A FUNCTION -/
def evFn (Kn : Kn) (L : Nat → Option LCon) (fn : Func) (args : List Value) (H : List AObj) : Out :=
  match fn.body with
  | some c => ev Kn L c ⟨someL args ++ repO (fn.ntmps - args.length), H⟩ (fin Kn.P fn)
  | none => .bad
theorem readO_lies {base : Nat} {w0 w : World} {ρ : Ren} {H : List AObj} {i off n b s : Nat} {z : Nat × Nat} {cs : List Value} (hc : HC base w0 ρ H w) (hi : ρ i = some (some (b, s, z))) (h : readO H i off n = some cs) :
    ∃ us, RL ρ cs us ∧ cs.length = n ∧ Lies w b (s + off) us := by
  have hs : (readH H i off none n (fun vs => .done .ret ⟨[some (.tuple ⟨vs⟩)], []⟩)).sat (fun _ S => S.slots = [some (.tuple ⟨cs⟩)]) := by
    unfold readO at h
    unfold readH
    split at h
    · rename_i T ds hd
      rw [hd]
      simp only [h]
      rfl
    · cases h
  obtain ⟨vs, us, h1, h2, h3, h4⟩ := readH_ok hs hc hi
  have h1' : [some (Value.tuple ⟨vs⟩)] = [some (.tuple ⟨cs⟩)] := h1
  cases h1'
  exact ⟨us, h2, h3, h4 w (Below.refl _ _)⟩
theorem aggSize_one {P : Program} {t : TypeId} {n : Nat} (h : aggSize P t = some (false, n)) : n = 1 := by
  unfold aggSize at h
  cases hu : P.underlying t with
  | none => rw [hu] at h; cases h
  | some d =>
    rw [hu] at h
    cases hd : aggD d with
    | true =>
      simp only [hd] at h
      cases hi : P.info? t with
      | none => rw [hi] at h; cases h
      | some i => rw [hi] at h; cases h
    | false => simp only [hd] at h; cases h; rfl
def resVar (tmps : Array Value) : ResultVar → Sem Value
  | .tmp t => pure (tmps.getD t undef)
  | .cell c t => do loadVar t (← asAddr (tmps.getD c undef))
theorem resL_ok {P : Program} {base : Nat} {w0 w : World} {ρ : Ren} {S : ASt} {a : Act} (hc : HC base w0 ρ S.heap w) (hs : SC ρ S.slots a) : ∀ (l : List ResultVar) (vs : List Value), resL P S l = some vs →
    ∃ us, RL ρ vs us ∧ (l.mapM (resVar a.tmps)).run P w = .ok us w
  | [], vs, h => by cases h; exact ⟨[], .nil ρ, rfl⟩
  | .tmp t :: l, vs, h => by
    unfold resL at h
    split at h
    · rename_i v hv
      split at h
      · rename_i vs' hl
        cases h
        obtain ⟨us, h1, h2⟩ := resL_ok hc hs l vs' hl
        have hr := hs.ev (x := .tmp t) hv
        refine ⟨_ :: us, .cons hr h1, ?_⟩
        have hst : (resVar a.tmps (.tmp t)).run P w = .ok (a.tmps.getD t undef) w := rfl
        rw [List.mapM_cons, Sem.run_bind, hst, Result.andThen_ok, Sem.run_bind, h2]
        rfl
      · cases h
    · cases h
  | .cell t T :: l, vs, h => by
    unfold resL at h
    split at h
    · rename_i i off hv
      have hr := hs.ev (x := .tmp t) hv
      have he : a.eval (.tmp t) = a.tmps.getD t undef := rfl
      rw [he] at hr
      generalize hq : a.tmps.getD t undef = q at hr
      cases hr with
      | ptr hm =>
        rename_i b s z
        split at h
        · rename_i n hsz
          split at h
          · rename_i cs hcs
            split at h
            · rename_i vs' hl
              cases h
              obtain ⟨us, h1, h2⟩ := resL_ok hc hs l vs' hl
              obtain ⟨ds, g1, g2, g3⟩ := readO_lies hc hm hcs
              refine ⟨.agg ⟨ds⟩ :: us, .cons (Rn.aggRL g1) h1, ?_⟩
              have hst : (resVar a.tmps (.cell t T)).run P w = .ok (.agg ⟨ds⟩) w := by
                show (do loadVar T (← asAddr (a.tmps.getD t undef)) : Sem Value).run P w = _
                rw [hq]
                exact run_loadVar hsz (by rw [← g1.1, g2]) g3
              rw [List.mapM_cons, Sem.run_bind, hst, Result.andThen_ok, Sem.run_bind, h2]
              rfl
            · cases h
          · cases h
        · rename_i n hsz
          have hn := aggSize_one hsz
          subst hn
          split at h
          · rename_i c cs hcs
            split at h
            · rename_i vs' hl
              cases h
              obtain ⟨us, h1, h2⟩ := resL_ok hc hs l vs' hl
              obtain ⟨ds, g1, g2, g3⟩ := readO_lies hc hm hcs
              obtain ⟨u, ds', rfl, g4, g5⟩ := g1.cons_inv
              have hz : cs = [] := by cases cs; rfl; simp at g2
              subst hz
              have := g5.nil_inv
              subst this
              refine ⟨u :: us, .cons g4 h1, ?_⟩
              have hst : (resVar a.tmps (.cell t T)).run P w = .ok u w := by
                show (do loadVar T (← asAddr (a.tmps.getD t undef)) : Sem Value).run P w = _
                rw [hq]
                exact run_loadVar hsz rfl g3
              rw [List.mapM_cons, Sem.run_bind, hst, Result.andThen_ok, Sem.run_bind, h2]
              rfl
            · cases h
          · cases h
        · cases h
    · cases h
theorem fin_ok {P : Program} {fn : Func} {base : Nat} {w0 w : World} {ρ : Ren} {S : ASt} {a : Act} {vs : List Value} (hc : HC base w0 ρ S.heap w) (hs : SC ρ S.slots a) (h : resL P S fn.results.toList = some vs) :
    ∃ u, Rn ρ (oneOf vs) u ∧ (results fn a.tmps).run P w = .ok u w := by
  obtain ⟨us, h1, h2⟩ := resL_ok hc hs _ vs h
  have hm : (fn.results.mapM (resVar a.tmps)).run P w = .ok ⟨us⟩ w := by
    have : fn.results = ⟨fn.results.toList⟩ := rfl
    rw [this, List.mapM_toArray, Sem.run_map, h2]
    rfl
  have hres : results fn a.tmps = (do let vs ← fn.results.mapM (resVar a.tmps); pure (if h : vs.size = 1 then vs[0] else .tuple vs)) := by
    unfold results
    congr 2
  rw [hres, Sem.run_bind, hm]
  simp only [Result.andThen_ok]
  match vs, us, h1 with
  | [], us, h1 => have := h1.nil_inv; subst this; exact ⟨.tuple ⟨[]⟩, Rn.tupRL h1, rfl⟩
  | [v], us, h1 =>
    obtain ⟨u, us', rfl, h3, h4⟩ := h1.cons_inv
    have := h4.nil_inv
    subst this
    exact ⟨u, h3, rfl⟩
  | v :: v' :: vs, us, h1 =>
    refine ⟨.tuple ⟨us⟩, Rn.tupRL h1, ?_⟩
    have : us.length ≠ 1 := by rw [← h1.1]; simp
    simp [this]
theorem slots_ok {ρ : Ren} {args us : List Value} (h : RL ρ args us) (n : Nat) : SC ρ (someL args ++ repO (n - args.length)) { tmps := (⟨us⟩ : Array Value) ++ Array.replicate (n - (⟨us⟩ : Array Value).size) undef, defers := [] } := by
  have l1 : ∀ l : List Value, (someL l).length = l.length := fun l => by induction l with | nil => rfl | cons v l ih => simp [someL, ih]
  have l2 : ∀ n, (repO n).length = n := fun n => by induction n with | zero => rfl | succ n ih => simp [repO, ih]
  have a1 : ∀ (l : List Value) (m : List (Option Value)) t, nthO (someL l ++ m) t = if t < l.length then l[t]? else nthO m (t - l.length) := fun l => by
    induction l with
    | nil => intro m t; simp [someL]
    | cons v l ih =>
      intro m t
      cases t with
      | zero => simp [someL, nthO]
      | succ t => simp [someL, nthO, ih m t]
  have a2 : ∀ n t v, nthO (repO n) t = some v → v = undef ∧ t < n := fun n => by
    induction n with
    | zero => intro t v h; cases h
    | succ n ih =>
      intro t v h
      cases t with
      | zero => simp [repO, nthO] at h; exact ⟨h.symm, by omega⟩
      | succ t => have := ih t v h; exact ⟨this.1, by omega⟩
  refine ⟨rfl, by simp [l1, l2, h.1], fun t v hv => ?_⟩
  rw [a1] at hv
  split at hv
  · rename_i hlt
    obtain ⟨u, h1, h2⟩ := h.get hv
    exact ⟨u, by rw [Array.getElem?_append_left (by simpa [← h.1] using hlt)]; simpa using h1, h2⟩
  · rename_i hge
    obtain ⟨rfl, hlt⟩ := a2 _ _ _ hv
    refine ⟨undef, ?_, undef_Rn ρ⟩
    rw [Array.getElem?_append_right (by simp [← h.1]; omega)]
    simp only [List.size_toArray, ← h.1, Array.getElem?_replicate]
    rw [if_pos hlt]
/-- A RUN OF A FUNCTION IS SOUND. -/
theorem evFn_ok {Kn : Kn} (hK : Kn.Ok) {L : Nat → Option LCon} {Φ : Lf} {f : FuncId} {fn : Func} (hf : Kn.P.funcs[f]? = some fn) (hL : ∀ c, fn.body = some c → ∀ c' ∈ loops c, ∀ F, L (key c') = some F → LOk Kn.P c' F)
    {args : List Value} {H : List AObj} (h : (evFn Kn L fn args H).sat Φ) {base : Nat} {w0 w : World} {ρ : Ren} {us : List Value} (hc : HC base w0 ρ H w) (hr : RL ρ args us) {R : Ending → World → Prop}
    (hR : ∀ v H' ρ' w' u, Φ .ret ⟨[some v], H'⟩ → HC base w0 ρ' H' w' → RLe ρ ρ' → Rn ρ' v u → R (.returned u) w') : Calls Kn.P f ⟨us⟩ w R := by
  unfold evFn at h
  split at h
  · rename_i c hb
    refine calls_of_wp hf hb (ev_ok hK c (hL c hb) _ _ ρ _ w _ h hc (slots_ok hr fn.ntmps) fun e S' ρ' a' w' g1 g2 g3 g4 => ?_)
    have key : ∀ vs, resL Kn.P S' fn.results.toList = some vs → Φ .ret ⟨[some (oneOf vs)], S'.heap⟩ → a'.defers = [] ∧ ∃ v, (results fn a'.tmps).run Kn.P w' = .ok v w' ∧ R (.returned v) w' := fun vs e1 e2 => by
      obtain ⟨u, e3, e4⟩ := fin_ok g2 g3 e1
      exact ⟨g3.1, u, e4, hR _ _ ρ' w' u e2 g2 g4 e3⟩
    unfold fin at g1
    cases e with
    | exit n => exact g1.elim
    | normal =>
      simp only at g1
      split at g1
      · rename_i vs hv; exact key vs hv g1
      · exact g1.elim
    | ret =>
      simp only at g1
      split at g1
      · rename_i vs hv; exact key vs hv g1
      · exact g1.elim
  · exact h.elim
end Go.Proofs.Ytpkckgdpdnkbeaa
