/- A symbolic run of Go code: calls, structs, comparisons; every operation that leaves memory alone is sound. -/
import Derived.Test.YtpkckgdpdnkbeaaZe
namespace Go.Proofs.Ytpkckgdpdnkbeaa
open Go.RowKit
section
variable {En : Env} {o : Oper} {Φ : Lf} {k : Value → Out} {ρ : Ren} {a : Act} {w : World} {S : ASt}
/-- a call of a function value -/
theorem run_callv {P : Program} {g : FuncId} (q1 : ∀ args w, (callFunc g args).run P w = .ok (.enter g args) w) {f : Operand} {xs : List Operand} {ts : Array TypeId} {fs cs : List Value} (ho : o.op = .call ⟨.value f, ⟨xs⟩, ts⟩) (he : a.eval f = .func (.func g) ⟨fs⟩ ⟨cs⟩) (w' : World) :
    (execOp a.eval o).run P w' = .ok (.enter g ⟨fs ++ xs.map a.eval ++ cs⟩) w' := by
  unfold execOp
  rw [ho]
  simp only [resolve, he, Deferred.ofValue]
  rw [Sem.run_bind]
  simp only [Sem.run_pure, Result.andThen_ok, invoke]
  rw [q1]
  simp
theorem Rn.funcA {ρ : Ren} {g : Fn} {fs cs : List Value} {u : Value} (h : Rn ρ (.func g ⟨fs⟩ ⟨cs⟩) u) : ∃ fs' cs', u = .func g ⟨fs'⟩ ⟨cs'⟩ ∧ RL ρ fs fs' ∧ RL ρ cs cs' := by
  cases h with
  | func _ hl h hl2 h2 => exact ⟨_, _, rfl, ⟨hl, h⟩, ⟨hl2, h2⟩⟩
theorem vcall_ok (hE : En.Ok) {base : Nat} {w0 : World} {f : Operand} {xs : List Operand} {ts : Array TypeId} (ho : o.op = .call ⟨.value f, ⟨xs⟩, ts⟩) (h : (vcall En (S.ev f) (evL S xs) S.heap k).sat Φ) (hs : SC ρ S.slots a) (hc : HC base w0 ρ S.heap w) : VGoal En.P o Φ k ρ a w := by
  unfold vcall at h
  split at h
  · rename_i g fs cs hf
    split at h
    · rename_i F hF
      split at h
      · rename_i vs hx
        have hr := evL_RL hs hx
        have h1 := hs.ev hf
        generalize he : a.eval f = uf at h1
        obtain ⟨fs', cs', rfl, r1, r2⟩ := h1.funcA
        obtain ⟨q1, -, q2⟩ := hE.q g F hF
        obtain ⟨v, u, h3, h4, h5⟩ := q2 Φ _ S.heap k h base w0 ρ w _ hc ((r1.append hr).append r2)
        refine ⟨v, u, h3, h4, fun w' hw' => ?_⟩
        unfold Oper.quietAt
        rw [run_callv q1 ho he]
        refine ⟨rfl, (h5 w' hw').mono fun e w'' ⟨e1, e2⟩ => ⟨e1, hw'.trans (e2.mono hw'.size)⟩⟩
      · exact h.elim
    · exact h.elim
  · exact h.elim
theorem vnum_ok {P : Program} {op : BinOp} {t t' : TypeId} {x y : Operand} (ho : o.op = .binOp op t x y t') (h : (vnum op (S.ev x) (S.ev y) k).sat Φ) (hs : SC ρ S.slots a) : VGoal P o Φ k ρ a w := by
  unfold vnum at h
  split at h
  · rename_i j a1 hx
    split at h
    · rename_i j' b1 hy
      have e1 := (clean_Rn (by rfl)).1 (hs.ev hx)
      have e2 := (clean_Rn (by rfl)).1 (hs.ev hy)
      have hrun : ∀ (w' : World) r, (binOp op t (.int j a1) (.int j' b1)).run P w' = .ok r w' → (isNum op = true) → (execOp a.eval o).run P w' = .ok (.value r) w' := fun w' r hr hn => by
        unfold execOp
        rw [ho]
        refine run_v ?_
        rw [e1, e2]
        have hg : (eqGuard op t x y (.int j a1) (.int j' b1)).run P w' = .ok () w' := by
          unfold eqGuard
          cases op <;> first | exact Bool.noConfusion hn | rfl
        rw [Sem.run_bind, hg]
        exact hr
      split at h
      · obtain ⟨hb, h⟩ := h
        refine ⟨_, _, h, .int _ _, fun w' _ => quiet_val (hrun w' _ ?_ rfl)⟩
        show (Op.shift .shl j a1 j' b1).run P w' = _
        unfold Op.shift
        rw [if_neg (by omega)]
        rfl
      · obtain ⟨hb, h⟩ := h
        refine ⟨_, _, h, .int _ _, fun w' _ => quiet_val (hrun w' _ ?_ rfl)⟩
        show (Op.shift .shr j a1 j' b1).run P w' = _
        unfold Op.shift
        rw [if_neg (by omega)]
        rfl
      · obtain ⟨⟨hb, hj⟩, h⟩ := h
        subst hj
        refine ⟨_, _, h, .int _ _, fun w' _ => quiet_val (hrun w' _ ?_ rfl)⟩
        simp only [binOp]
        rw [if_neg (by simp)]
        unfold Op.intDiv
        rw [if_neg hb]
        rfl
      · obtain ⟨⟨hb, hj⟩, h⟩ := h
        subst hj
        refine ⟨_, _, h, .int _ _, fun w' _ => quiet_val (hrun w' _ ?_ rfl)⟩
        simp only [binOp]
        rw [if_neg (by simp)]
        unfold Op.intDiv
        rw [if_neg hb]
        rfl
      · exact h.elim
    · exact h.elim
  · exact h.elim
theorem fieldPl_eq {P : Program} {w : World} : ∀ {fs : List Field} {pl : List (Nat × Nat)}, fieldPl P fs = some pl → (fs.mapM (fun f => (do pure (f.offset, ← sizeOf f.type) : Sem (Nat × Nat)))).run P w = .ok pl w
  | [], pl, h => by cases h; rfl
  | f :: fs, pl, h => by
    unfold fieldPl at h
    split at h
    · rename_i i hi
      split at h
      · rename_i l hl
        cases h
        have ih := fieldPl_eq (w := w) hl
        rw [List.mapM_cons, Sem.run_bind, Sem.run_bind, run_sizeOf hi]
        simp only [Result.andThen_ok, Sem.run_pure]
        rw [Sem.run_bind, ih]
        rfl
      · cases h
    · cases h
theorem vbuild_ok {P : Program} {t : TypeId} {ps : List (Nat × Operand)} (ho : o.op = .build t ⟨ps⟩) (h : (vbuild P t (evP S ps) k).sat Φ) (hs : SC ρ S.slots a) : VGoal P o Φ k ρ a w := by
  unfold vbuild at h
  split at h
  · rename_i fs hu
    split at h
    · rename_i inf hi
      split at h
      · rename_i z hz
        split at h
        · rename_i hcl
          split at h
          · rename_i pl hpl
            split at h
            · rename_i qs hq
              split at h
              · rename_i cs hcs
                have hP := evP_PL hs hq
                have hzz : RL ρ (cellsL z) (cellsL z) := (selfB_Rn hcl).cellsL
                obtain ⟨o2, h1, h2⟩ := lfill_RL hP hzz hcs
                refine ⟨_, .agg ⟨o2⟩, h, Rn.aggRL h2, fun w' _ => quiet_val ?_⟩
                unfold execOp
                rw [ho]
                refine run_v ?_
                unfold Instr.build
                have hzv : (zeroValue t).run P w' = .ok z w' := by simp [zeroValue, typeInfo, program, Sem.run, hi, hz]
                have hm : (Array.mapM (fun f => (do pure (f.offset, ← sizeOf f.type) : Sem (Nat × Nat))) ⟨fs⟩).run P w' = .ok ⟨pl⟩ w' := by
                  rw [List.mapM_toArray, Sem.run_map, fieldPl_eq hpl]
                  rfl
                rw [Sem.run_bind, hzv]
                simp only [Result.andThen_ok]
                rw [Sem.run_bind, run_underlying hu]
                simp only [Result.andThen_ok]
                rw [Sem.run_bind, hm]
                simp only [Result.andThen_ok]
                have hfe := fill_eq (nthL pl) (ps.map fun p => (p.1, a.eval p.2)) (cellsL z)
                rw [h1] at hfe
                have hpl2 : (fun x => (⟨pl⟩ : Array (Nat × Nat))[x]?) = nthL pl := funext fun n => by rw [nthL_eq]; simp
                simp only [hpl2, cellsL_eq, List.map_toArray]
                rw [hfe]
                rfl
              · exact h.elim
            · exact h.elim
          · exact h.elim
        · exact h.elim
      · exact h.elim
    · exact h.elim
  · exact h.elim
theorem vbuildA_ok {P : Program} {t : TypeId} {ps : List (Nat × Operand)} (ho : o.op = .build t ⟨ps⟩) (h : (vbuildA P t (evP S ps) k).sat Φ) (hs : SC ρ S.slots a) : VGoal P o Φ k ρ a w := by
  unfold vbuildA at h
  split at h
  · rename_i n e hu
    split at h
    · rename_i inf hi
      split at h
      · rename_i z hz
        split at h
        · rename_i hcl
          split at h
          · rename_i ie hie
            split at h
            · rename_i qs hq
              split at h
              · rename_i cs hcs
                have hP := evP_PL hs hq
                have hzz : RL ρ (cellsL z) (cellsL z) := (selfB_Rn hcl).cellsL
                obtain ⟨o2, h1, h2⟩ := lfill_RL hP hzz hcs
                refine ⟨_, .agg ⟨o2⟩, h, Rn.aggRL h2, fun w' _ => quiet_val ?_⟩
                unfold execOp
                rw [ho]
                refine run_v ?_
                unfold Instr.build
                have hzv : (zeroValue t).run P w' = .ok z w' := by simp [zeroValue, typeInfo, program, Sem.run, hi, hz]
                rw [Sem.run_bind, hzv]
                simp only [Result.andThen_ok]
                rw [Sem.run_bind, run_underlying hu]
                simp only [Result.andThen_ok]
                rw [Sem.run_bind, run_sizeOf hie]
                simp only [Result.andThen_ok]
                have hfe := fill_eq (fun i => some (i * ie.size, ie.size)) (ps.map fun p => (p.1, a.eval p.2)) (cellsL z)
                rw [h1] at hfe
                simp only [cellsL_eq, List.map_toArray]
                rw [hfe]
                rfl
              · exact h.elim
            · exact h.elim
          · exact h.elim
        · exact h.elim
      · exact h.elim
    · exact h.elim
  · exact vbuild_ok ho h hs
theorem veq_ok {P : Program} {T : TypeId} {F : Value → Value → Option Bool} (hF : EOk P T F) {pos : Bool} {op : BinOp} {x y : Operand} {T' : TypeId} (hop : op = bif pos then .eql else .neq) (ho : o.op = .binOp op T x y T') (h : (veq F pos (S.ev x) (S.ev y) k).sat Φ) (hs : SC ρ S.slots a) : VGoal P o Φ k ρ a w := by
  unfold veq at h
  split at h
  · rename_i vx hx
    split at h
    · rename_i vy hy
      split at h
      · rename_i hcl
        split at h
        · rename_i b hb
          rw [Bool.and_eq_true] at hcl
          have e1 := (clean_Rn hcl.1).1 (hs.ev hx)
          have e2 := (clean_Rn hcl.2).1 (hs.ev hy)
          obtain ⟨g1, g2⟩ := hF
          obtain ⟨⟨cs, rfl⟩, ⟨ds, rfl⟩, g3⟩ := g2 vx vy b hb
          refine ⟨_, _, h, .bool _, fun w' _ => quiet_val ?_⟩
          unfold execOp
          rw [ho]
          refine run_v ?_
          rw [e1, e2, hop]
          have hg : ∀ op : BinOp, (eqGuard op T x y (.agg cs) (.agg ds)).run P w' = .ok () w' := fun op => by
            unfold eqGuard
            cases hm : (match op with | .eql => true | .neq => true | _ => false)
            all_goals simp [program, Sem.run, g1]
          rw [Sem.run_bind, hg]
          simp only [Result.andThen_ok]
          cases pos
          · show Sem.run P (do pure (Value.bool !(← Op.equal T (.agg cs) (.agg ds)))) w' = _
            rw [Sem.run_bind, g3]
            rfl
          · show Sem.run P (do pure (Value.bool (← Op.equal T (.agg cs) (.agg ds)))) w' = _
            rw [Sem.run_bind, g3]
            rfl
        · exact h.elim
      · exact h.elim
    · exact h.elim
  · exact h.elim
/-- A list held against nil. -/
theorem vsnil_ok {P : Program} {op : BinOp} {t t' : TypeId} {x y : Operand} {l : Nat} (ho : o.op = .binOp op t x y t') (hn : nilS P t (S.ev x) y = some l) (h : (vsnil op l k).sat Φ) (hs : SC ρ S.slots a) : VGoal P o Φ k ρ a w := by
  unfold nilS at hn
  split at hn
  · rename_i l2 c2
    split at hn
    · rename_i ad l' c' hx
      split at hn
      · rename_i e hu
        cases hn
        have h1 := hs.ev hx
        generalize he1 : a.eval x = ux at h1
        have hc : ∃ ad' c3, ux = .slice ad' l c3 ∧ (l ≠ 0 → ad'.isNone = false) := by
          cases h1 with
          | slice _ _ h _ => exact ⟨_, _, rfl, fun _ => rfl⟩
          | sliceR _ _ c' h _ _ _ => exact ⟨_, _, rfl, fun _ => rfl⟩
          | sliceE hl hc => exact ⟨_, _, rfl, fun h0 => absurd hl h0⟩
        obtain ⟨ad', c3, rfl, hz⟩ := hc
        have heq : ∀ w' : World, (Op.equal t (.slice ad' l c3) (.slice none l2 c2)).run P w' = .ok ad'.isNone w' := fun w' => by
          unfold Op.equal
          show (Op.equalIn (_ + 1) t (.slice ad' l c3) (.slice none l2 c2)).run P w' = _
          unfold Op.equalIn
          rw [Sem.run_bind, run_underlying hu]
          simp only [Result.andThen_ok]
          cases ad' <;> rfl
        have hrun : ∀ (w' : World) r, (binOp op t (.slice ad' l c3) (.slice none l2 c2)).run P w' = .ok r w' → (execOp a.eval o).run P w' = .ok (.value r) w' := fun w' r hr => by
          unfold execOp
          rw [ho]
          refine run_v ?_
          rw [he1]
          have hg : (eqGuard op t x (.const (.slice none l2 c2)) (.slice ad' l c3) (.slice none l2 c2)).run P w' = .ok () w' := by
            unfold eqGuard
            cases op <;> rfl
          show ((eqGuard op t x (.const (.slice none l2 c2)) (.slice ad' l c3) (.slice none l2 c2)) >>= fun _ => binOp op t (.slice ad' l c3) (.slice none l2 c2)).run P w' = _
          rw [Sem.run_bind, hg]
          exact hr
        have hb : (Nat.beq l 0 && Nat.beq (bif ad'.isNone then 0 else 1) 0) = ad'.isNone := by
          cases hi : ad'.isNone with
          | true =>
            have : l = 0 := Classical.byContradiction fun h0 => by rw [hz h0] at hi; cases hi
            subst this
            rfl
          | false => cases l <;> rfl
        unfold vsnil at h
        split at h
        · have h := h (bif ad'.isNone then 0 else 1)
          simp only [hb] at h
          refine ⟨_, _, h, .bool _, fun w' _ => quiet_val (hrun w' _ ?_)⟩
          show Sem.run P (do pure (Value.bool (← Op.equal t (.slice ad' l c3) (.slice none l2 c2)))) w' = _
          rw [Sem.run_bind, heq]
          rfl
        · have h := h (bif ad'.isNone then 0 else 1)
          simp only [hb] at h
          refine ⟨_, _, h, .bool _, fun w' _ => quiet_val (hrun w' _ ?_)⟩
          show Sem.run P (do pure (Value.bool (!(← Op.equal t (.slice ad' l c3) (.slice none l2 c2))))) w' = _
          rw [Sem.run_bind, heq]
          rfl
        · exact h.elim
      · cases hn
    · cases hn
  · cases hn
/-- EVERY OPERATION THAT LEAVES MEMORY ALONE IS SOUND. -/
theorem vop_ok (hE : En.Ok) {base : Nat} {w0 : World} (h : (vop En o S k).sat Φ) (hs : SC ρ S.slots a) (hc : HC base w0 ρ S.heap w) : VGoal En.P o Φ k ρ a w := by
  unfold vop at h
  split at h
  · rename_i x ho; exact vget_ok (fun ev => by unfold execOp; rw [ho]) h hs
  · rename_i x ho; exact vget_ok (fun ev => by unfold execOp; rw [ho]) h hs
  · rename_i c x y ho
    split at h
    · rename_i b hcb
      have hb := (clean_Rn (by rfl)).1 (hs.ev hcb)
      rcases tst_sat h with ⟨e, h'⟩ | ⟨e, h'⟩
      · subst e
        unfold vget at h'
        split at h'
        · rename_i v hx
          refine ⟨v, _, h', hs.ev hx, fun w' _ => quiet_val ?_⟩
          unfold execOp
          rw [ho]
          simp only [hb, asBool, Sem.run_bind, Sem.run_pure, Result.andThen_ok]
          rfl
        · exact h'.elim
      · subst e
        unfold vget at h'
        split at h'
        · rename_i v hx
          refine ⟨v, _, h', hs.ev hx, fun w' _ => quiet_val ?_⟩
          unfold execOp
          rw [ho]
          simp only [hb, asBool, Sem.run_bind, Sem.run_pure, Result.andThen_ok]
          rfl
        · exact h'.elim
    · exact h.elim
  · rename_i t x ho; exact vload_ok ho h hs hc
  · rename_i t x ix ho; exact vindexAddr_ok ho h hs hc
  · rename_i t x f ho; exact vfieldAddr_ok ho h hs
  · rename_i t x f ho; exact vfield_ok ho h hs
  · rename_i t x ix ho; exact vindex_ok ho h hs
  · rename_i x n ho; exact vextract_ok ho h hs
  · rename_i t x lo hi ho; exact vslice_ok ho h hs hc
  · rename_i t ps ho; exact vbuildA_ok ho h hs
  · rename_i x ho; exact vnil_ok ho h hs
  · rename_i g xs ys ho; exact vfunc_ok ho h hs
  · rename_i t x hi mx ho; exact vslice3_ok ho h hs
  · rename_i xs ts ho; exact vlen_ok ho h hs
  · rename_i ho; exact vpure_ok (fun cs b e => by rw [ho] at e; cases e) h hs
  · rename_i ho; exact vpure_ok (fun cs b e => by rw [ho] at e; cases e) h hs
  · rename_i f xs ts ho; exact vcall_ok hE ho h hs hc
  · rename_i op t x y t' ho
    split at h
    · rename_i F hF
      split at h
      · exact veq_ok (hE.e t F hF) (pos := true) rfl ho h hs
      · exact veq_ok (hE.e t F hF) (pos := false) rfl ho h hs
      · exact h.elim
    · split at h
      · exact vnum_ok ho h hs
      · exact vpure_ok (fun cs b e => by rw [ho] at e; cases e) h hs
  · rename_i op t x ho; exact vpure_ok (fun cs b e => by rw [ho] at e; cases e) h hs
  · rename_i s d x ho; exact vpure_ok (fun cs b e => by rw [ho] at e; cases e) h hs
  · rename_i t x ix ho; exact vlookup_ok ho h hs hc
  · exact h.elim
end
end Go.Proofs.Ytpkckgdpdnkbeaa
