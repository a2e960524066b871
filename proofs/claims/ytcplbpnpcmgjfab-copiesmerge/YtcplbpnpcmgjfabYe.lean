/- A symbolic run of Go code: addresses, parts, lengths, calls. -/
import Derived.Test.YtcplbpnpcmgjfabYd
namespace Go.Proofs.Ytcplbpnpcmgjfab
open Go.RowKit
section
variable {P : Program} {o : Oper} {Φ : Lf} {k : Value → Out} {ρ : Ren} {a : Act} {w : World} {S : ASt}
/-- a place so many elements further: what it stands for -/
theorem stepA_ok {base : Nat} {w0 : World} {H : List AObj} {i off n sz b s z : Nat} {sp : Option Nat} {k : Addr → Out} (h : (stepA H i off sp n sz k).sat Φ) (hc : HC base w0 ρ H w) (hi : ρ i = some (some (b, s, z))) :
    ∃ off' sp', (k ⟨i, off', sp'⟩).sat Φ ∧ placeOf s z sp' + off' = placeOf s z sp + off + n * sz := by
  unfold stepA at h
  split at h
  · rename_i z' N g ho
    rw [nthL_eq] at ho
    split at h
    · rename_i hz
      rw [Nat.beq_eq] at hz
      subst hz
      obtain ⟨l, h1, h0, _⟩ := hc.obj i _ ho
      rw [hi] at h1
      cases h1
      have hz := h0 b s z rfl
      subst hz
      refine ⟨_, _, h, ?_⟩
      cases sp with
      | none => simp only [spAdd, placeOf]; omega
      | some r => simp only [spAdd, placeOf, Nat.add_mul]; omega
    · exact h.elim
  · split at h
    · exact ⟨_, _, h, by simp only [placeOf]; omega⟩
    · exact h.elim
  · exact h.elim
theorem Rn.sliceA {ρ : Ren} {i off l c : Nat} {sp : Option Nat} {u : Value} (h : Rn ρ (.slice (some ⟨i, off, sp⟩) l c) u) : (∃ b s z, ρ i = some (some (b, s, z)) ∧ l ≤ c ∧ u = .slice (some ⟨b, placeOf s z sp + off, none⟩) l c) ∨ (l = 0 ∧ c = 0 ∧ ∃ a, u = .slice a l c) := by
  cases h with
  | slice _ _ h hlc => exact .inl ⟨_, _, _, h, hlc, rfl⟩
  | sliceR _ _ h hlc => exact .inl ⟨_, _, _, h, hlc, rfl⟩
  | sliceE hl hc => exact .inr ⟨hl, hc, _, rfl⟩
theorem Rn.mkSlice {ρ : Ren} {i off b s z l c : Nat} (sp : Option Nat) (h : ρ i = some (some (b, s, z))) (hlc : l ≤ c) : Rn ρ (.slice (some ⟨i, off, sp⟩) l c) (.slice (some ⟨b, placeOf s z sp + off, none⟩) l c) := by
  cases sp with
  | none => exact .slice l c h hlc
  | some r => exact .sliceR l c h hlc
theorem vindexAddr_ok {base : Nat} {w0 : World} {t : TypeId} {x ix : Operand} (ho : o.op = .indexAddr t x ix) (h : (vindexAddr P t S.heap (S.ev x) (S.ev ix) k).sat Φ) (hs : SC ρ S.slots a) (hc : HC base w0 ρ S.heap w) : VGoal P o Φ k ρ a w := by
  unfold vindexAddr at h
  split at h
  · rename_i e hu
    split at h
    · rename_i i off sp len c hx
      split at h
      · rename_i kk n hix
        split at h
        · rename_i inf hi
          have h1 := hs.ev hx
          have h2 := hs.ev hix
          generalize he1 : a.eval x = ux at h1
          generalize he2 : a.eval ix = ui at h2
          obtain ⟨hin, h⟩ := h
          cases h2
          rcases h1.sliceA with ⟨b, s, z, hm, hlc, rfl⟩ | ⟨hl, _⟩
          · obtain ⟨off', sp', g1, g2⟩ := stepA_ok h hc hm
            refine ⟨_, _, g1, Rn.mkPtr sp' hm, fun w' _ => quiet_val ?_⟩
            unfold execOp
            rw [ho]
            refine run_v ?_
            rw [he1, he2]
            unfold Instr.indexAt
            simp only [asIntOf, Sem.run_bind, Sem.run_pure, Result.andThen_ok, run_underlying hu]
            rw [if_pos hin]
            simp only [Sem.run_bind, run_sizeOf hi, Result.andThen_ok, Sem.run_pure, addr_add, g2]
          · exact absurd hin (by omega)
        · exact h.elim
      · exact h.elim
    · exact h.elim
  · rename_i len e hu
    split at h
    · rename_i i off hx
      split at h
      · rename_i kk n hix
        split at h
        · rename_i inf hi
          have h1 := hs.ev hx
          have h2 := hs.ev hix
          generalize he1 : a.eval x = ux at h1
          generalize he2 : a.eval ix = ui at h2
          obtain ⟨hin, h⟩ := h
          cases h2
          obtain ⟨b, s, z, hm, rfl⟩ := h1.ptrA
          refine ⟨_, _, h, Rn.mkPtr none hm, fun w' _ => quiet_val ?_⟩
          unfold execOp
          rw [ho]
          refine run_v ?_
          rw [he1, he2]
          unfold Instr.indexAt
          simp only [asIntOf, Instr.sureAddr, Sem.run_bind, Sem.run_pure, Result.andThen_ok, run_underlying hu]
          rw [if_pos hin]
          simp only [Sem.run_bind, run_sizeOf hi, Result.andThen_ok, Sem.run_pure, addr_add, placeOf, Nat.add_assoc]
        · exact h.elim
      · exact h.elim
    · exact h.elim
  · exact h.elim
theorem vfieldAddr_ok {t : TypeId} {x : Operand} {f : Nat} (ho : o.op = .fieldAddr t x f) (h : (vfieldAddr P t (S.ev x) f k).sat Φ) (hs : SC ρ S.slots a) : VGoal P o Φ k ρ a w := by
  unfold vfieldAddr at h
  split at h
  · rename_i fs hu
    split at h
    · rename_i i off sp hx
      split at h
      · rename_i fd hf
        rw [nthL_eq] at hf
        split at h
        · rename_i inf hi
          split at h
          · exact h.elim
          · rename_i z0 hz
            have h1 := hs.ev hx
            generalize he1 : a.eval x = ux at h1
            obtain ⟨b, s, z, hm, rfl⟩ := h1.ptrA
            refine ⟨_, _, h, Rn.mkPtr sp hm, fun w' _ => quiet_val ?_⟩
            unfold execOp
            rw [ho]
            refine run_v ?_
            rw [he1]
            unfold Instr.fieldAt
            have hf' : (⟨fs⟩ : Array Field)[f]? = some fd := by simpa using hf
            simp only [Sem.run_bind, run_underlying hu, Result.andThen_ok, hf', Instr.sureAddr, Sem.run_pure, fieldPlace, run_sizeOf hi, hz]
            rw [if_neg (by omega)]
            simp [addr_add, Nat.add_assoc]
        · exact h.elim
      · exact h.elim
    · exact h.elim
  · exact h.elim
theorem run_part {P : Program} {t : TypeId} {ag : Bool} {n : Nat} (hs : aggSize P t = some (ag, n)) {cs : List Value} {off : Nat} (w : World) :
    (ag = true → (part t ⟨cs⟩ off).run P w = .ok (.agg ⟨(cs.drop off).take n⟩) w) ∧ (ag = false → ∀ v, cs[off]? = some v → (part t ⟨cs⟩ off).run P w = .ok v w) := by
  unfold aggSize at hs
  cases hu : P.underlying t with
  | none => rw [hu] at hs; cases hs
  | some d =>
    rw [hu] at hs
    unfold part
    rw [Sem.run_bind, run_isAgg hu, Result.andThen_ok]
    cases hd : aggD d with
    | true =>
      simp only [hd] at hs
      cases hi : P.info? t with
      | none => rw [hi] at hs; cases hs
      | some i =>
        rw [hi] at hs
        cases hs
        refine ⟨fun _ => ?_, (fun h => by cases h)⟩
        simp [run_sizeOf hi]
    | false =>
      simp only [hd] at hs
      cases hs
      refine ⟨(fun h => by cases h), fun _ v hv => ?_⟩
      simp [hv]
theorem vfield_ok {t : TypeId} {x : Operand} {f : Nat} (ho : o.op = .field t x f) (h : (vfield P t (S.ev x) f k).sat Φ) (hs : SC ρ S.slots a) : VGoal P o Φ k ρ a w := by
  unfold vfield at h
  split at h
  · rename_i fs hu
    split at h
    · rename_i cs hx
      split at h
      · rename_i fd hf
        rw [nthL_eq] at hf
        have h1 := hs.ev hx
        generalize he1 : a.eval x = ux at h1
        cases h1 with
        | agg hl hh =>
          rename_i us
          have hrl : RL ρ cs us := ⟨hl, hh⟩
          have hf' : (⟨fs⟩ : Array Field)[f]? = some fd := by simpa using hf
          have hrun : ∀ w' u, (part fd.type ⟨us⟩ fd.offset).run P w' = .ok u w' → (execOp a.eval o).run P w' = .ok (.value u) w' := fun w' u hp => by
            unfold execOp
            rw [ho]
            refine run_v ?_
            rw [he1]
            unfold Instr.field
            simp only [Sem.run_bind, run_underlying hu, Result.andThen_ok, hf', asAgg, Sem.run_pure]
            exact hp
          split at h
          · rename_i n hsz
            split at h
            · rename_i vs hr
              exact ⟨_, _, h, Rn.aggRL (readN_cut hrl hr).1, fun w' _ => quiet_val (hrun w' _ ((run_part hsz w').1 rfl))⟩
            · exact h.elim
          · rename_i n hsz
            split at h
            · rename_i v hv
              rw [nthL_eq] at hv
              obtain ⟨u, hu', hr⟩ := hrl.get hv
              exact ⟨_, u, h, hr, fun w' _ => quiet_val (hrun w' _ ((run_part hsz w').2 rfl u hu'))⟩
            · exact h.elim
          · exact h.elim
      · exact h.elim
    · exact h.elim
  · exact h.elim
theorem vindex_ok {t : TypeId} {x ix : Operand} (ho : o.op = .index t x ix) (h : (vindex P t (S.ev x) (S.ev ix) k).sat Φ) (hs : SC ρ S.slots a) : VGoal P o Φ k ρ a w := by
  unfold vindex at h
  split at h
  · rename_i hu
    split at h
    · rename_i s hx
      split at h
      · rename_i kk n hix
        have h1 := hs.ev hx
        have h2 := hs.ev hix
        generalize he1 : a.eval x = ux at h1
        generalize he2 : a.eval ix = ui at h2
        obtain ⟨hin, h⟩ := h
        cases h1; cases h2
        refine ⟨_, _, h, .int _ _, fun w' _ => quiet_val ?_⟩
        unfold execOp
        rw [ho]
        refine run_v ?_
        rw [he1, he2]
        unfold Instr.index
        simp only [asIntOf, Sem.run_bind, Sem.run_pure, Result.andThen_ok, run_underlying hu]
        have hlt : n.toNat < s.size := by omega
        have hb : (s[n.toNat]? : Option UInt8) = some s[n.toNat] := by simp [hlt]
        rw [if_pos hin.1, hb]
        simp only [Sem.run_pure]
        congr 3
        have : s.data.toList[n.toNat]? = some s[n.toNat] := by
          rw [List.getElem?_eq_getElem (by simpa using hlt)]
          rfl
        rw [this]
        rfl
      · exact h.elim
    · exact h.elim
  · exact h.elim
theorem obnd_ok {ρ : Ren} {a : Act} {S : ASt} (hs : SC ρ S.slots a) {x : Option Operand} {y dflt : Nat} {k : Nat → Out} (h : (obnd (x.map S.ev) y dflt k).sat Φ) :
    (x = none ∧ (k dflt).sat Φ) ∨ ∃ op kk i, x = some op ∧ a.eval op = .int kk i ∧ (0 ≤ i ∧ i ≤ y) ∧ (k i.toNat).sat Φ := by
  unfold obnd at h
  cases x with
  | none => exact .inl ⟨rfl, h⟩
  | some op =>
    simp only [Option.map_some] at h
    split at h
    · rename_i he; cases he
    · rename_i kk i he
      simp only [Option.some.injEq] at he
      exact .inr ⟨op, kk, i, rfl, (clean_Rn (by rfl)).1 (hs.ev he), h.1, h.2⟩
    · exact h.elim
/-- The bounds of a slice expression without a third index. -/
theorem run_bounds {ρ : Ren} {a : Act} {S : ASt} (hs : SC ρ S.slots a) {lo hi : Option Operand} {len cap : Nat} {k : Nat → Nat → Out} (b : Bool) (h : (obnd (hi.map S.ev) cap len fun h => obnd (lo.map S.ev) h 0 fun l => k h l).sat Φ) (hlc : len ≤ cap) :
    ∃ h l, (k h l).sat Φ ∧ l ≤ h ∧ h ≤ cap ∧ ∀ w, (Instr.sliceBounds b len cap (lo.map a.eval) (hi.map a.eval) none).run P w = .ok (l, h, cap) w := by
  have hb : ∀ (kk : IntKind) (i : Int) (y : Nat) (c : BoundsCode) (w : World), (0 ≤ i ∧ i ≤ y) → (Instr.sliceBound (.int kk i) y c).run P w = .ok i.toNat w := fun kk i y c w hi => by
    simp only [Instr.sliceBound, asIntOf, Sem.run_bind, Sem.run_pure, Result.andThen_ok]
    rw [if_pos hi]
    rfl
  rcases obnd_ok (x := hi) hs h with ⟨e1, h'⟩ | ⟨o1, k1, i1, e1, he1, hb1, h'⟩
  · subst e1
    rcases obnd_ok (x := lo) hs h' with ⟨e2, h2⟩ | ⟨o2, k2, i2, e2, he2, hb2, h2⟩
    · subst e2
      exact ⟨_, _, h2, Nat.zero_le _, hlc, fun w => by simp [Instr.sliceBounds]⟩
    · subst e2
      refine ⟨_, _, h2, by omega, hlc, fun w => ?_⟩
      simp only [Instr.sliceBounds, Option.map_none, Option.map_some, he2, Sem.run_bind, Sem.run_pure, Result.andThen_ok, hb _ _ _ _ w hb2]
  · subst e1
    rcases obnd_ok (x := lo) hs h' with ⟨e2, h2⟩ | ⟨o2, k2, i2, e2, he2, hb2, h2⟩
    · subst e2
      refine ⟨_, _, h2, Nat.zero_le _, by omega, fun w => ?_⟩
      simp only [Instr.sliceBounds, Option.map_none, Option.map_some, he1, Sem.run_bind, Sem.run_pure, Result.andThen_ok, hb _ _ _ _ w hb1]
    · subst e2
      refine ⟨_, _, h2, by omega, by omega, fun w => ?_⟩
      simp only [Instr.sliceBounds, Option.map_some, he1, he2, Sem.run_bind, Sem.run_pure, Result.andThen_ok, hb _ _ _ _ w hb1, hb _ _ _ _ w hb2]
theorem vslice_ok {base : Nat} {w0 : World} {t : TypeId} {x : Operand} {lo hi : Option Operand} (ho : o.op = .slice t x lo hi none) (h : (vslice P t S.heap (S.ev x) (lo.map S.ev) (hi.map S.ev) k).sat Φ) (hs : SC ρ S.slots a) (hc : HC base w0 ρ S.heap w) : VGoal P o Φ k ρ a w := by
  unfold vslice at h
  split at h
  · rename_i hu
    split at h
    · rename_i s hx
      have h1 := hs.ev hx
      generalize he1 : a.eval x = ux at h1
      cases h1
      obtain ⟨hh, ll, g1, g2, g3, g4⟩ := run_bounds (P := P) (k := fun hh ll => k (.string (s.extract ll hh))) hs false h (Nat.le_refl _)
      refine ⟨_, _, g1, .string _, fun w' _ => quiet_val ?_⟩
      unfold execOp
      rw [ho]
      refine run_v ?_
      rw [he1]
      simp only [Instr.sliceAt, Sem.run_bind, run_underlying hu, Result.andThen_ok, Instr.slice, Option.map_none, Option.isSome_none]
      simp [g4]
    · exact h.elim
  · rename_i e hu
    split at h
    · rename_i inf hi'
      split at h
      · rename_i i off sp len cap hx
        have h1 := hs.ev hx
        generalize he1 : a.eval x = ux at h1
        have hlc : len ≤ cap := by rcases h1.sliceA with ⟨_, _, _, _, h, _⟩ | ⟨h, h', _⟩ <;> omega
        obtain ⟨hh, ll, g1, g2, g3, g4⟩ := run_bounds (P := P) (k := fun hh ll => stepA S.heap i off sp ll inf.size fun ad => k (.slice (some ad) (hh - ll) (cap - ll))) hs true h hlc
        have hrun : ∀ w' ad, ux = .slice ad len cap → (execOp a.eval o).run P w' = .ok (.value (.slice (if cap = ll then ad else ad.map (·.add (ll * inf.size))) (hh - ll) (cap - ll))) w' := fun w' ad hux => by
          unfold execOp
          rw [ho]
          refine run_v ?_
          rw [he1, hux]
          simp only [Instr.sliceAt, Sem.run_bind, run_underlying hu, Result.andThen_ok, Instr.slice, Option.map_none, g4, run_sizeOf hi', Sem.run_pure]
        rcases h1.sliceA with ⟨b, s, z, hm, _, rfl⟩ | ⟨hl, hcc, ad, rfl⟩
        · obtain ⟨off', sp', e1, e2⟩ := stepA_ok g1 hc hm
          refine ⟨_, _, e1, ?_, fun w' _ => quiet_val (hrun w' _ rfl)⟩
          by_cases hcl : cap = ll
          · exact .sliceE (by omega) (by omega)
          · rw [if_neg hcl]
            simp only [Option.map_some, addr_add]
            rw [← e2]
            exact Rn.mkSlice sp' hm (by omega)
        · have hst : ∃ ad', (k (.slice (some ad') (hh - ll) (cap - ll))).sat Φ := by
            unfold stepA at g1
            split at g1
            · split at g1
              · exact ⟨_, g1⟩
              · exact g1.elim
            · split at g1
              · exact ⟨_, g1⟩
              · exact g1.elim
            · exact g1.elim
          obtain ⟨ad', g1⟩ := hst
          refine ⟨_, _, g1, .sliceE (by omega) (by omega), fun w' _ => quiet_val (hrun w' _ rfl)⟩
      · rename_i len cap hx
        have h1 := hs.ev hx
        generalize he1 : a.eval x = ux at h1
        have hlc : len ≤ cap := by cases h1 <;> omega
        obtain ⟨hh, ll, g1, g2, g3, g4⟩ := run_bounds (P := P) (k := fun hh ll => k (.slice none (hh - ll) (cap - ll))) hs true h hlc
        have hrun : ∀ w' ad, ux = .slice ad len cap → (execOp a.eval o).run P w' = .ok (.value (.slice (if cap = ll then ad else ad.map (·.add (ll * inf.size))) (hh - ll) (cap - ll))) w' := fun w' ad hux => by
          unfold execOp
          rw [ho]
          refine run_v ?_
          rw [he1, hux]
          simp only [Instr.sliceAt, Sem.run_bind, run_underlying hu, Result.andThen_ok, Instr.slice, Option.map_none, g4, run_sizeOf hi', Sem.run_pure]
        cases h1 with
        | slice0 =>
          refine ⟨_, _, g1, ?_, fun w' _ => quiet_val (hrun w' _ rfl)⟩
          by_cases hcl : cap = ll
          · exact .sliceE (by omega) (by omega)
          · rw [if_neg hcl]
            exact .slice0 _ _ (by omega)
        | sliceE hl hc =>
          refine ⟨_, _, g1, .sliceE (by omega) (by omega), fun w' _ => quiet_val (hrun w' _ rfl)⟩
      · exact h.elim
    · exact h.elim
  · exact h.elim
theorem vextract_ok {x : Operand} {n : Nat} (ho : o.op = .extract x n) (h : (vextract (S.ev x) n k).sat Φ) (hs : SC ρ S.slots a) : VGoal P o Φ k ρ a w := by
  unfold vextract at h
  split at h
  · rename_i vs hx
    split at h
    · rename_i v hv
      rw [nthL_eq] at hv
      have h1 := hs.ev hx
      generalize he1 : a.eval x = ux at h1
      cases h1 with
      | tuple hl hh =>
        rename_i us
        obtain ⟨u, hu, hr⟩ := RL.get (⟨hl, hh⟩ : RL ρ vs us) hv
        refine ⟨_, u, h, hr, fun w' _ => quiet_val ?_⟩
        unfold execOp
        rw [ho]
        refine run_v ?_
        rw [he1]
        simp [Instr.extract, hu]
    · exact h.elim
  · exact h.elim
theorem vlen_ok {xs : List Operand} {ts : List TypeId} (ho : o.op = .call ⟨.builtin .len, ⟨xs⟩, ⟨ts⟩⟩) (h : (vlen P ts (evL S xs) k).sat Φ) (hs : SC ρ S.slots a) : VGoal P o Φ k ρ a w := by
  unfold vlen at h
  split at h
  · rename_i t ts'
    split at h
    · rename_i v hx
      have hr := evL_RL hs hx
      obtain ⟨u, us', e, h1, h2⟩ := hr.cons_inv
      have := h2.nil_inv
      subst this
      have hrun : ∀ w' r, (Builtin.len_ ⟨t :: ts'⟩ o.type ⟨[u]⟩).run P w' = .ok r w' → (execOp a.eval o).run P w' = .ok (.value r) w' := fun w' r hl => by
        unfold execOp
        rw [ho]
        simp only [resolve, List.map_toArray, e, invoke, builtin]
        rw [Sem.run_bind]
        simp only [Sem.run_pure, Result.andThen_ok]
        exact run_v hl
      split at h
      · rename_i e' hu
        split at h
        · rename_i ad n c
          refine ⟨_, .int .i64 n, h, .int _ _, fun w' _ => quiet_val (hrun w' _ ?_)⟩
          unfold Builtin.len_
          cases h1 <;> simp [run_underlying hu, goInt]
        · exact h.elim
      · rename_i hu
        split at h
        · rename_i s
          refine ⟨_, .int .i64 s.size, h, .int _ _, fun w' _ => quiet_val (hrun w' _ ?_)⟩
          unfold Builtin.len_
          cases h1
          simp [run_underlying hu, goInt]
        · exact h.elim
      · exact h.elim
    · exact h.elim
  · exact h.elim
end
end Go.Proofs.Ytcplbpnpcmgjfab
