/- A symbolic run of Go code: regions in any order: every operation. -/
import Derived.Test.YtpkckgdpdnkbeaaZp
namespace Go.Proofs.Ytpkckgdpdnkbeaa
open Go.RowKit
section
variable {P : Program} {o : Oper} {Sr : ASt} {id m : Nat} {k : Value × Eff → Out} {Φ : Lf} {base : Nat} {w0 w : World} {ρ : Ren} {H : List AObj} {a : Act}
theorem effH_app (H : List AObj) : ∀ (e f : Eff), effH H (e ++ f) = effH (effH H e) f := fun e => by
  induction e generalizing H with
  | nil => intro f; rfl
  | cons x e ih => intro f; obtain ⟨i, o⟩ := x; exact ih _ f
theorem effH_len : ∀ (e : Eff) (H : List AObj), (effH H e).length = H.length
  | [], _ => rfl
  | (i, o) :: e, H => by rw [effH, effH_len e, setL_eq, List.length_set]
theorem effH_news : ∀ (os H : List AObj) (id : Nat), effH H (newsAt id os) = setsAt H id os
  | [], _, _ => rfl
  | o :: l, H, id => by rw [newsAt, effH, setL_eq, effH_news l, setsAt]
theorem xappend_ok {t : TypeId} {sx sy : Operand} (ho : o.op = .call ⟨.builtin .append, ⟨[sx, sy]⟩, ⟨[t, t]⟩⟩) (h : (xappend P t Sr.heap (Sr.ev sx) (Sr.ev sy) id k).sat Φ) (hs : SC ρ Sr.slots a) (hc : HC base w0 ρ H w) (hsee : ∀ (i : Nat) o, Sr.heap[i]? = some o → o = .gone ∨ H[i]? = some o) (hl : Sr.heap.length = H.length)
    (hm : 0 < m) (hid : id < H.length) (hno : ρ id = none) : RGoal P o a w base w0 ρ H id m Φ k := by
  have hc' := hc.mask hl hsee
  unfold xappend at h
  split at h
  · rename_i e hu
    split at h
    · rename_i inf hi
      split at h
      · rename_i z hz
        split at h
        · rename_i sh hk
          split at h
          · rename_i hch
            simp only [Bool.and_eq_true, Nat.beq_eq, Nat.blt_eq] at hch
            obtain ⟨⟨⟨hc1, hc2⟩, hc3⟩, hc4⟩ := hch
            split at h
            · rename_i x hx
              split at h
              · rename_i y hy
                obtain ⟨gs, n, g, h, hA⟩ := appAt_ok h hc' (hs.ev hx)
                obtain ⟨m', f, l, h, ⟨hrow, _⟩, hyR⟩ := rowsOf_ok h hc' (hs.ev hy)
                obtain ⟨hby, h⟩ := h
                have hzs : z.cells.size = sh.length := by rw [cellsL_eq]; exact hc2
                have hsrc : Src w sh m' f (a.eval sy) := by
                  rcases (hyR (fun _ => some l) 0 rfl).sliceA with ⟨b, s, z, c', e, hlc, hcc, _, _, e2⟩ | ⟨rfl, _, ad, e2⟩
                  · cases e
                    rw [e2]
                    refine ⟨_, _, rfl, .inr ⟨_, rfl, fun j v hv => ?_⟩⟩
                    rcases hrow.2 with rfl | ⟨b', s', q', e, h2⟩
                    · simp [flat] at hv
                    · cases e
                      rw [addr_add]
                      have := flat_lies h2 j v hv
                      simpa [placeOf] using this
                  · rw [e2]
                    exact ⟨_, _, rfl, .inl rfl⟩
                refine ⟨_, _, h, fun next Q hn => ?_⟩
                have fin : ∀ u' w' (row : Option Nat) (l' : Loc), (Builtin.append_ #[t, t] o.type #[a.eval sx, a.eval sy]).run P w = .ok u' w' → w.grownBy w' row → (∀ b, row = some b → base ≤ b) →
                    (∀ (j : Nat) o, (effH H gs)[j]? = some o → o = .gone ∨ H[j]? = some o ∧ ∀ b s z, ρ j = some (some (b, s, z)) → some b ≠ row) → w'.ownsRow base e sh.length (rowV l' (n + m')) (n + m') (flat sh (n + m') (joinG n g f)) →
                    (∀ b s z, l' = some (b, s, z) → s = 0 ∧ z.1 = sh.length ∧ b < w'.heap.size ∧ (some b = row ∨ w.heap.size ≤ b)) → (∀ ρ' i, ρ' i = some l' → Rn ρ' (.slice (some ⟨i, 0, some 0⟩) (n + m') (n + m')) u') → o.wp P a w next Q := by
                  intro u' w' row l' hr hg hrw hH2 hown hl' hv
                  obtain ⟨q1, q2⟩ := hc.growAt (H1 := effH H gs) (effH_len _ _) hid hno hH2 hrw hg hown hl'
                  unfold Oper.wp execOp
                  simp only [ho, resolve, invoke, builtin, Sem.run_bind, Sem.run_pure, Result.andThen_ok, List.map_toArray, List.map_cons, List.map_nil, hr]
                  refine hn _ _ _ (hv _ _ (if_pos rfl)) q2 (upd_else hm) ?_
                  rw [effH_app]
                  simpa [effH, setL_eq] using q1
                have nn : gs = [] ∨ (∃ i, gs = [(i, .gone)]) → ∀ (j : Nat) o, (effH H gs)[j]? = some o → o = .gone ∨ H[j]? = some o := fun hgs j o hj => by
                  rcases hgs with rfl | ⟨i, rfl⟩
                  · exact .inr hj
                  · simp only [effH, setL_eq] at hj
                    by_cases hij : i = j
                    · subst hij
                      rw [List.getElem?_set] at hj
                      simp only [if_true] at hj
                      split at hj
                      · cases hj; exact .inl rfl
                      · cases hj
                    · rw [List.getElem?_set_ne hij] at hj; exact .inr hj
                have empty : n = 0 → (∃ ad, a.eval sx = .slice ad 0 0) → (gs = [] ∨ ∃ i, gs = [(i, .gone)]) → o.wp P a w next Q := fun hn0 ⟨ad, hu2⟩ hgs => by
                  subst hn0
                  obtain ⟨u', w', r1, r2, r3⟩ := app_none (P := P) (ty := o.type) (ad := ad) (g := g) hu hi hz hc1 hzs hc3 hc4 hsrc hby hc.floor
                  rw [← hu2] at r1
                  have nn' : ∀ (j : Nat) o, (effH H gs)[j]? = some o → o = .gone ∨ H[j]? = some o ∧ ∀ b s z, ρ j = some (some (b, s, z)) → some b ≠ none := fun j o hj => by
                    rcases nn hgs j o hj with e | e
                    · exact .inl e
                    · exact .inr ⟨e, fun b s z _ e => by cases e⟩
                  rcases r3 with ⟨rfl, rfl, rfl⟩ | ⟨r3, r4⟩
                  · exact fin _ _ none none r1 r2 (fun b e => by cases e) nn' (World.ownsRow_nil _ _ _ _) (fun b s z e => by cases e) fun ρ' i _ => .sliceE rfl rfl
                  · obtain ⟨l', e1, e2, e3⟩ := own_fin r3
                    refine fin _ _ none l' r1 r2 (fun b e => by cases e) nn' e1 (fun b s z e => ?_) e3
                    obtain ⟨f1, f2, f3, f4⟩ := e2 b s z e
                    refine ⟨f1, f2, f3, .inr ?_⟩
                    rw [f4] at r4
                    rcases r4 with r4 | r4
                    · cases r4
                    · cases r4; exact Nat.le_refl _
                rcases hA with ⟨e1, e2, e3⟩ | ⟨i, oo, rfl, hoi, hown0, hA⟩
                · exact empty e2 e3 (.inl e1)
                · rcases hA with ⟨e2, e3⟩ | ⟨hown, b0, s0, z0, hm0, hb0⟩
                  · exact empty e2 e3 (.inr ⟨i, rfl⟩)
                  · obtain ⟨u', w', r1, r2, r3, r4⟩ := app_own (P := P) (ty := o.type) hu hi hz hc1 hzs hc3 hc4 hown hsrc hby hc.floor
                    obtain ⟨l', e1, e2, e3⟩ := own_fin r2
                    have hoiH : H[i]? = some oo := (hsee i _ hoi).resolve_left (fun e => by subst e; cases hown0)
                    refine fin _ _ _ l' r1 r3 (fun b e => (hown.lt b e).1) (fun j o' hj => ?_) e1 (fun b s z e => ?_) e3
                    · simp only [effH, setL_eq] at hj
                      by_cases hij : i = j
                      · subst hij
                        rw [List.getElem?_set_self ((List.getElem?_eq_some_iff.1 hoiH).1)] at hj
                        cases hj
                        exact .inl rfl
                      · rw [List.getElem?_set_ne hij] at hj
                        by_cases hg : o' = .gone
                        · exact .inl hg
                        · refine .inr ⟨hj, fun b s z e hb => ?_⟩
                          rw [hb0] at hb
                          cases hb
                          exact hc.apart i j oo _ s0 z0 _ s z o' hoiH hown0 hj (fun e => hg e) hm0 e hij rfl
                    · obtain ⟨f1, f2, f3, f4⟩ := e2 b s z e
                      refine ⟨f1, f2, f3, ?_⟩
                      rw [f4] at r4
                      rcases r4 with r4 | r4
                      · exact .inl r4
                      · cases r4; exact .inr (Nat.le_refl _)
              · exact h.elim
            · exact h.elim
          · exact h.elim
        · exact h.elim
      · exact h.elim
    · exact h.elim
  · exact h.elim
theorem newsAt_len : ∀ (os : List AObj) (id : Nat), (newsAt id os).length = os.length
  | [], _ => rfl
  | o :: l, id => by simp [newsAt, newsAt_len l]
theorem fnOf_some {v : Option Value} {g : FuncId} {fs cs : List Value} (h : fnOf v = some (g, fs, cs)) : v = some (.func (.func g) ⟨fs⟩ ⟨cs⟩) := by
  unfold fnOf at h
  split at h
  · cases h; rfl
  · cases h
theorem xcall_ok {g : FuncId} {F : FCon} (hF : FOk P g F) {f : Operand} {xs : List Operand} {ts : Array TypeId} {fs cs : List Value} (ho : o.op = .call ⟨.value f, ⟨xs⟩, ts⟩) (hfn : fnOf (Sr.ev f) = some (g, fs, cs)) (h : (xcall F (evL Sr xs) fs cs Sr.heap id k).sat Φ) (hs : SC ρ Sr.slots a) (hc : HC base w0 ρ H w)
    (hsee : ∀ (i : Nat) o, Sr.heap[i]? = some o → o = .gone ∨ H[i]? = some o) (hl : Sr.heap.length = H.length) (hm : m = 6) (hid : ∀ t, t < m → id + t < H.length ∧ ρ (id + t) = none) : RGoal P o a w base w0 ρ H id m Φ k := by
  have hc' := hc.mask hl hsee
  unfold xcall at h
  split at h
  · rename_i vs hx
    have hr := evL_RL hs hx
    have h1 := hs.ev (fnOf_some hfn)
    generalize he : a.eval f = uf at h1
    obtain ⟨fs', cs', rfl, r1, r2⟩ := h1.funcA
    obtain ⟨q1, -, q2⟩ := hF
    obtain ⟨R, h3, h4, h5, h6⟩ := q2 Φ _ Sr.heap _ h base w0 ρ w _ hc' ((r1.append hr).append r2)
    refine ⟨_, _, h3, fun next Q hn => ?_⟩
    unfold Oper.wp
    rw [run_callv q1 ho he]
    refine (h6 w (Below.refl _ _)).mono fun e w'' ⟨u, ls, e1, e2, e3, e4⟩ => ?_
    subst e1
    have hle : id + R.2.length ≤ H.length := by
      rcases Nat.eq_zero_or_pos R.2.length with e | e
      · have := (hid 0 (by omega)).1; omega
      · have := (hid (R.2.length - 1) (by omega)).1; omega
    obtain ⟨j1, j2⟩ := hc.join h5 e2 e3 hle fun j hj => (hid j (by omega)).2
    refine hn u _ w'' (e4 _ id fun j l hj => upds_at hj) j2 (fun i hi => upds_old ?_) (by rw [effH_news]; exact j1)
    have hll : ls.length ≤ 6 := by
      rcases Nat.lt_or_ge R.2.length ls.length with hlt | hge
      · have := e2.dom (ls.length - 1) _ (List.getElem?_eq_getElem (by omega))
        omega
      · omega
    rcases Nat.lt_or_ge i id with h1 | h1
    · exact .inl h1
    · refine .inr ?_
      rcases Nat.lt_or_ge i (id + ls.length) with h2 | h2
      · exact absurd (show i = id + (i - id) by omega) (hi (i - id) (by omega))
      · exact h2
  · exact h.elim
end
/-- AN OPERATION IN A MEMORY OF WHICH IT SEES A PART. -/
theorem rx_ok {En : Env} (hE : En.Ok) {o : Oper} {Sr : ASt} {id m : Nat} {k : Value × Eff → Out} {Φ : Lf} {base : Nat} {w0 w : World} {ρ : Ren} {H : List AObj} {a : Act} (h : (rx En o Sr id k).sat Φ) (hs : SC ρ Sr.slots a) (hc : HC base w0 ρ H w)
    (hl : Sr.heap.length = H.length) (hsee : ∀ (i : Nat) o, Sr.heap[i]? = some o → o = .gone ∨ H[i]? = some o) (hmw : need En o Sr ≤ m) (hm6 : m ≤ 6) (hid : ∀ t, t < m → id + t < H.length ∧ ρ (id + t) = none) : RGoal En.P o a w base w0 ρ H id m Φ k := by
  have one : need En o Sr = 1 → 0 < m ∧ id < H.length ∧ ρ id = none := fun e => by
    have hm : 0 < m := by omega
    exact ⟨hm, (hid 0 hm).1, (hid 0 hm).2⟩
  have hc' := hc.mask hl hsee
  have new1 : need En o Sr = 1 → ∀ (t : TypeId) (cs us : List Value), RL ρ cs us → (execOp a.eval o).run En.P w = .ok (.value (.pointer (some ⟨w.heap.size, 0, none⟩))) (w.alloc (.cells ⟨us⟩ t)) → (k (.pointer (some ⟨id, 0, none⟩), [(id, .cells t cs)])).sat Φ → RGoal En.P o a w base w0 ρ H id m Φ k := fun e1 t cs us hr hrun h => by
    obtain ⟨hm, hid0, hno0⟩ := one e1
    obtain ⟨h1, h2⟩ := hc.newAt (T := t) hr hid0 hno0
    refine ⟨_, _, h, fun next Q hn => ?_⟩
    unfold Oper.wp
    rw [hrun]
    refine hn _ _ _ ?_ h2 (upd_else hm) (by simpa [effH, setL_eq] using h1)
    have hp := Rn.ptr (ρ := upd ρ id (some (w.heap.size, 0, 0, 0))) (i := id) (o := 0) (b := w.heap.size) (s := 0) (z := (0, 0)) (if_pos rfl)
    exact hp
  have vq : (vop En o Sr fun v => k (v, [])).sat Φ → RGoal En.P o a w base w0 ρ H id m Φ k := fun h => by
    obtain ⟨v, u, h1, h2, h3⟩ := vop_ok hE h hs hc'
    refine ⟨v, [], h1, fun next Q hn => ?_⟩
    refine Oper.wp_of_quiet (C := fun w' => Below w.heap.size w w') (K := fun a' => a' = a.put o.dst u) (Below.refl _ _) (fun a' w' hw' e => ?_) ⟨u, h3, rfl⟩
    subst e
    exact hn u ρ w' h2 (RLe.refl ρ) (fun _ _ => rfl) (hc.step hw')
  unfold rx at h
  split at h
  · rename_i t ho
    split at h
    · rename_i inf hi
      split at h
      · rename_i z hz
        split at h
        · rename_i hcl
          refine new1 (by unfold need; rw [ho]) t _ _ (selfB_Rn hcl).cellsL ?_ h
          unfold execOp
          rw [ho]
          simp only [Instr.alloc, Sem.run_bind, run_zero hi hz, Result.andThen_ok, newVar, newRow, newObj, cellsL_eq]
          rfl
        · exact h.elim
      · exact h.elim
    · exact h.elim
  · rename_i t x ho
    split at h
    · rename_i v hx
      refine new1 (by unfold need; rw [ho]) t _ _ (hs.ev hx).cellsL ?_ h
      unfold execOp
      rw [ho]
      simp only [Instr.box, Sem.run_bind, newVar, newRow, newObj, cellsL_eq]
      rfl
    · exact h.elim
  · rename_i t x y ho; exact xstore_ok ho h hs hc hsee
  · rename_i t len ps ho; obtain ⟨hm, hid0, hno0⟩ := one (by unfold need; rw [ho]); exact xbuildS_ok ho h hs hc hm hid0 hno0
  · rename_i t l c ho; obtain ⟨hm, hid0, hno0⟩ := one (by unfold need; rw [ho]); exact xmake_ok ho h hs hc hm hid0 hno0
  · rename_i t ho
    obtain ⟨hm, hid0, hno0⟩ := one (by unfold need; rw [ho])
    obtain ⟨h1, h2⟩ := hc.newMap hid0 hno0
    refine ⟨_, _, h, fun next Q hn => ?_⟩
    unfold Oper.wp
    have hrun : (execOp a.eval o).run En.P w = .ok (.value (.map (some w.heap.size))) (w.alloc (.map #[] 0)) := by
      unfold execOp
      rw [ho]
      rfl
    rw [hrun]
    refine hn _ _ _ ?_ h2 (upd_else hm) (by simpa [effH, setL_eq] using h1)
    exact Rn.map (ρ := upd ρ id (some (w.heap.size, 0, 0, 0))) (i := id) (b := w.heap.size) (if_pos rfl)
  · rename_i t m' x y ho; exact xinsert_ok ho h hs hc hsee
  · rename_i x y t t' ho
    split at h
    · rename_i hb
      rw [Nat.beq_eq] at hb
      subst hb
      obtain ⟨hm, hid0, hno0⟩ := one (by unfold need; rw [ho])
      exact xappend_ok ho h hs hc hsee hl hm hid0 hno0
    · exact h.elim
  · rename_i f xs ts ho
    split at h
    · rename_i g fs cs hfn
      split at h
      · rename_i F hF
        have : m = 6 := by
          have e : need En o Sr = 6 := by unfold need; rw [ho]; simp only [hfn, hF]
          omega
        exact xcall_ok (hE.f g F hF) ho hfn h hs hc hsee hl this hid
      · exact vq h
    · exact h.elim
  · exact vq h
theorem need_wd (En : Env) (o : Oper) (S : ASt) : need En o S ≤ wd En o := by
  unfold need
  split
  · rename_i ho; unfold wd; rw [ho]; exact Nat.le_refl _
  · rename_i ho; unfold wd; rw [ho]; exact Nat.le_refl _
  · rename_i ho; unfold wd; rw [ho]; exact Nat.le_refl _
  · rename_i ho; unfold wd; rw [ho]; exact Nat.le_refl _
  · rename_i ho; unfold wd; rw [ho]; exact Nat.le_refl _
  · rename_i ho; unfold wd; rw [ho]; exact Nat.le_refl _
  · rename_i f _ _ ho
    have hw : wd En o = wfn En f := by unfold wd; rw [ho]
    rw [hw]
    unfold wfn
    split
    · rename_i g fs cs hf
      split
      · rename_i F hF
        split
        · rename_i g'
          simp only [ASt.ev, fnOf, Option.some.injEq, Prod.mk.injEq] at hf
          rw [hf.1, hF]
          exact Nat.le_refl _
        · exact Nat.le_refl _
      · exact Nat.zero_le _
    · exact Nat.zero_le _
  · exact Nat.zero_le _
theorem wd_six (En : Env) (o : Oper) : wd En o ≤ 6 := by
  have hf : ∀ f, wfn En f ≤ 6 := fun f => by
    unfold wfn
    split
    · split <;> omega
    · omega
  unfold wd
  split
  all_goals first | exact hf _ | omega
theorem off_step (En : Env) : ∀ (l : List Oper) (i q : Nat), i < q → offN En l i + wdN En l i ≤ offN En l q
  | [], i, q, _ => by cases i <;> cases q <;> simp [offN, wdN, nthL]
  | o :: l, 0, q + 1, _ => by simp [offN, wdN, nthL]
  | o :: l, i + 1, q + 1, h => by
    have := off_step En l i q (by omega)
    simp only [offN, wdN, nthL] at this ⊢
    omega
theorem det_xstore (P : Program) (t : TypeId) (H : List AObj) (x y : Option Value) : Det (xstore P t H x y) := fun k Φ h => by
  unfold xstore at h
  simp only [headsV_eq] at h
  split at h
  · split at h
    · split at h
      · rename_i inf hinf
        split at h
        · rename_i hch
          split at h
          · rename_i hi
            split at h
            · split at h
              · rename_i hle
                exact ⟨_, h, fun k' Φ' h' => by unfold xstore; simp only [hinf, hch, hi, hle]; exact h'⟩
              · exact h.elim
            · exact h.elim
          · rename_i hi
            split at h
            · split at h
              · rename_i hle
                exact ⟨_, h.2, fun k' Φ' h' => by unfold xstore; simp only [headsV_eq, hinf, hch, hi, hle]; exact ⟨h.1, h'⟩⟩
              · exact h.elim
            · exact h.elim
          · exact h.elim
        · exact h.elim
      · exact h.elim
    · exact h.elim
  · exact h.elim
theorem det_xinsert (P : Program) (t : TypeId) (H : List AObj) (m x y : Option Value) : Det (xinsert P t H m x y) := fun k Φ h => by
  unfold xinsert at h
  split at h
  · rename_i kt et hu
    split at h
    · rename_i huk
      split at h
      · split at h
        · split at h
          · rename_i v
            split at h
            · rename_i hcl
              split at h
              · rename_i es c hi
                split at h
                · rename_i hab
                  exact ⟨_, h, fun k' Φ' h' => by unfold xinsert; simp only [hu, huk, hcl, hi, hab]; exact h'⟩
                · exact h.elim
              · exact h.elim
            · exact h.elim
          · exact h.elim
        · exact h.elim
      · exact h.elim
    · exact h.elim
  · exact h.elim
theorem det_xbuildS (P : Program) (t : TypeId) (len : Nat) (ps : Option (List (Nat × Value))) (id : Nat) : Det (xbuildS P t len ps id) := fun k Φ h => by
  unfold xbuildS at h
  split at h
  · rename_i e hu
    split at h
    · rename_i inf hi
      split at h
      · rename_i z hz
        split at h
        · rename_i hch
          split at h
          · split at h
            · rename_i cs hcs
              split at h
              · rename_i sh hsh
                exact ⟨_, h, fun k' Φ' h' => by unfold xbuildS; simp only [hu, hi, hz, hch, hcs, hsh]; exact h'⟩
              · rename_i hsh
                exact ⟨_, h, fun k' Φ' h' => by unfold xbuildS; simp only [hu, hi, hz, hch, hcs, hsh]; exact h'⟩
            · exact h.elim
          · exact h.elim
        · exact h.elim
      · exact h.elim
    · exact h.elim
  · exact h.elim
theorem det_xmake (P : Program) (t : TypeId) (l c : Option Value) (id : Nat) : Det (xmake P t l c id) := fun k Φ h => by
  unfold xmake at h
  split at h
  · rename_i e hu
    split at h
    · rename_i inf hi
      split at h
      · rename_i z hz
        split at h
        · rename_i sh hk
          split at h
          · rename_i hch
            split at h
            · split at h
              · exact ⟨_, h.2, fun k' Φ' h' => by unfold xmake; simp only [hu, hi, hz, hk, hch]; exact ⟨h.1, h'⟩⟩
              · exact h.elim
            · exact h.elim
          · exact h.elim
        · exact h.elim
      · exact h.elim
    · exact h.elim
  · exact h.elim
theorem det_xappend (P : Program) (t : TypeId) (H : List AObj) (x y : Option Value) (id : Nat) : Det (xappend P t H x y id) := fun k Φ h => by
  unfold xappend at h
  split at h
  · rename_i e hu
    split at h
    · rename_i inf hi
      split at h
      · rename_i z hz
        split at h
        · rename_i sh hk
          split at h
          · rename_i hch
            split at h
            · split at h
              · obtain ⟨gs, n, g, h1, h2⟩ := det_appAt _ _ _ _ _ _ h
                obtain ⟨m, f, h3, h4⟩ := det_rowsOf _ _ _ _ _ h1
                exact ⟨_, h3.2, fun k' Φ' h' => by unfold xappend; simp only [hu, hi, hz, hk, hch]; exact h2 _ _ (h4 _ _ ⟨h3.1, h'⟩)⟩
              · exact h.elim
            · exact h.elim
          · exact h.elim
        · exact h.elim
      · exact h.elim
    · exact h.elim
  · exact h.elim
theorem det_rx {En : Env} (hE : En.Ok) (o : Oper) (S : ASt) (id : Nat) : Det (rx En o S id) := fun k Φ h => by
  have key : ∀ (f : (Value × Eff → Out) → Out), Det f → (∀ k, rx En o S id k = f k) → ∃ v, (k v).sat Φ ∧ ∀ (k' : Value × Eff → Out) (Φ' : Lf), (k' v).sat Φ' → (rx En o S id k').sat Φ' := fun f hd he => by
    rw [he] at h
    obtain ⟨v, h1, h2⟩ := hd k Φ h
    exact ⟨v, h1, fun k' Φ' h' => by rw [he]; exact h2 _ _ h'⟩
  have vd : Det (fun k : Value × Eff → Out => vop En o S fun v => k (v, [])) := fun k Φ h => by
    obtain ⟨v, h1, h2⟩ := det_vop hE o S _ _ h
    exact ⟨_, h1, fun k' Φ' h' => h2 _ _ h'⟩
  unfold rx at h
  split at h
  · rename_i t ho
    split at h
    · rename_i inf hi
      split at h
      · rename_i z hz
        split at h
        · rename_i hs
          exact ⟨_, h, fun k' Φ' h' => by unfold rx; simp only [ho, hi, hz, hs]; exact h'⟩
        · exact h.elim
      · exact h.elim
    · exact h.elim
  · rename_i t x ho
    split at h
    · rename_i v hx
      exact ⟨_, h, fun k' Φ' h' => by unfold rx; simp only [ho, hx]; exact h'⟩
    · exact h.elim
  · rename_i ho; exact key _ (det_xstore _ _ _ _ _) (fun k => by unfold rx; rw [ho])
  · rename_i ho; exact key _ (det_xbuildS _ _ _ _ _) (fun k => by unfold rx; rw [ho])
  · rename_i ho; exact key _ (det_xmake _ _ _ _ _) (fun k => by unfold rx; rw [ho])
  · rename_i t ho
    exact ⟨_, h, fun k' Φ' h' => by unfold rx; simp only [ho]; exact h'⟩
  · rename_i ho; exact key _ (det_xinsert _ _ _ _ _ _) (fun k => by unfold rx; rw [ho])
  · rename_i x y t t' ho
    split at h
    · rename_i hb
      exact key (xappend En.P t S.heap (S.ev x) (S.ev y) id) (det_xappend _ _ _ _ _ _) (fun k => by unfold rx; rw [ho]; simp only [hb])
    · exact h.elim
  · rename_i f xs ts ho
    split at h
    · rename_i g fs cs hfn
      split at h
      · rename_i F hF
        refine key (xcall F (evL S xs) fs cs S.heap id) (fun k Φ h => ?_) (fun k => by unfold rx; rw [ho]; simp only [hfn, hF])
        unfold xcall at h
        split at h
        · rename_i vs hx
          obtain ⟨R, h1, h2⟩ := (hE.f g F hF).2.1 _ _ _ _ h
          exact ⟨_, h1, fun k' Φ' h' => by unfold xcall; simp only [hx]; exact h2 _ _ h'⟩
        · exact h.elim
      · rename_i hF
        exact key _ vd (fun k => by unfold rx; rw [ho]; simp only [hfn, hF])
    · exact h.elim
  · rename_i h1 h2 h3 h4 h5 hmm hii h6 h7
    obtain ⟨v, g1, g2⟩ := det_vop hE o S _ _ h
    refine ⟨_, g1, fun k' Φ' h' => ?_⟩
    unfold rx
    split
    · rename_i t ho; exact absurd ho (h1 t)
    · rename_i t x ho; exact absurd ho (h2 t x)
    · rename_i t x y ho; exact absurd ho (h3 t x y)
    · rename_i t len ps ho; exact absurd ho (h4 t len ps)
    · rename_i t l c ho; exact absurd ho (h5 t l c)
    · rename_i t ho; exact absurd ho (hmm t)
    · rename_i t m x y ho; exact absurd ho (hii t m x y)
    · rename_i x y t t' ho; exact absurd ho (h6 x y t t')
    · rename_i f xs ts ho; exact absurd ho (h7 f xs ts)
    · exact g2 _ _ h'
end Go.Proofs.Ytpkckgdpdnkbeaa
