/- A symbolic run of Go code: addresses, parts, lengths, calls. -/
import Derived.Test.YtpkckgdpdnkbeaaZd
namespace Go.Proofs.Ytpkckgdpdnkbeaa
open Go.RowKit
section
variable {P : Program} {o : Oper} {Φ : Lf} {k : Value → Out} {ρ : Ren} {a : Act} {w : World} {S : ASt}
/-- a place so many elements further: what it stands for -/
theorem stepA_ok {base : Nat} {w0 : World} {H : List AObj} {i off n sz b s : Nat} {z : Nat × Nat} {sp : Option Nat} {k : Addr → Out} (h : (stepA H i off sp n sz k).sat Φ) (hc : HC base w0 ρ H w) (hi : ρ i = some (some (b, s, z))) :
    ∃ off' sp', (k ⟨i, off', sp'⟩).sat Φ ∧ placeOf s z sp' + off' = placeOf s z sp + off + n * sz := by
  unfold stepA at h
  split at h
  · rename_i z' N g ho
    rw [nthL_eq] at ho
    split at h
    · rename_i hz
      rw [Nat.beq_eq] at hz
      subst hz
      obtain ⟨l, h1, h0, _⟩ := hc.obj i _ ho
      rw [hi] at h1
      cases h1
      have hz := h0 b s z rfl
      refine ⟨_, _, h, ?_⟩
      cases sp with
      | none => simp only [spAdd, placeOf, hz]; omega
      | some r => simp only [spAdd, placeOf, Nat.add_mul, hz]; omega
    · exact h.elim
  · rename_i e z' N g ho
    rw [nthL_eq] at ho
    split at h
    · rename_i hz
      rw [Nat.beq_eq] at hz
      subst hz
      obtain ⟨l, h1, h0, _⟩ := hc.obj i _ ho
      rw [hi] at h1
      cases h1
      have hz := (h0 b s z rfl).2
      refine ⟨_, _, h, ?_⟩
      cases sp with
      | none => simp only [spAdd, placeOf, hz]; omega
      | some r => simp only [spAdd, placeOf, Nat.add_mul, hz]; omega
    · exact h.elim
  · split at h
    · exact ⟨_, _, h, by simp only [placeOf]; omega⟩
    · exact h.elim
  · exact h.elim
theorem Rn.sliceA {ρ : Ren} {i off l c : Nat} {sp : Option Nat} {u : Value} (h : Rn ρ (.slice (some ⟨i, off, sp⟩) l c) u) : (∃ b s z c', ρ i = some (some (b, s, z)) ∧ l ≤ c ∧ c ≤ c' ∧ (sp = none → c' = c) ∧ (∀ r, sp = some r → r + c' = z.2) ∧ u = .slice (some ⟨b, placeOf s z sp + off, none⟩) l c') ∨ (l = 0 ∧ c = 0 ∧ ∃ a, u = .slice a l c) := by
  cases h with
  | slice _ _ h hlc => exact .inl ⟨_, _, _, _, h, hlc, Nat.le_refl _, fun _ => rfl, (fun r e => by cases e), rfl⟩
  | sliceR _ _ c' h hlc hcc hq => exact .inl ⟨_, _, _, _, h, hlc, hcc, (fun e => by cases e), (fun r e => by cases e; exact hq), rfl⟩
  | sliceE hl hc => exact .inr ⟨hl, hc, _, rfl⟩
/-- a list's part: what it stands for -/
theorem cutA_ok {base : Nat} {w0 : World} {H : List AObj} {i off l sz len cap b s c' : Nat} {z : Nat × Nat} {sp : Option Nat} {k : Value → Out} (h : (cutA H i off sp l sz len cap k).sat Φ) (hc : HC base w0 ρ H w) (hi : ρ i = some (some (b, s, z)))
    (hlc : len ≤ cap) (hcc : cap + l ≤ c') (hn : sp = none → c' = cap + l) (hs : ∀ r, sp = some r → r + c' = z.2) :
    ∃ v, (k v).sat Φ ∧ Rn ρ v (.slice (some ⟨b, placeOf s z sp + off + l * sz, none⟩) len (c' - l)) ∧ (len = 0 → cap = 0 → ∀ ad, Rn ρ v (.slice ad 0 0)) := by
  have fin : ∀ r, sp = some r → z.1 = sz → (k (.slice (some ⟨i, off, some (l + r)⟩) len cap)).sat Φ → ∃ v, (k v).sat Φ ∧ Rn ρ v (.slice (some ⟨b, placeOf s z sp + off + l * sz, none⟩) len (c' - l)) ∧ (len = 0 → cap = 0 → ∀ ad, Rn ρ v (.slice ad 0 0)) := fun r e hz hk => by
    subst e
    have h1 := hs r rfl
    refine ⟨_, hk, ?_, fun e1 e2 ad => by subst e1; subst e2; exact .sliceE rfl rfl⟩
    have := Rn.sliceR (ρ := ρ) (i := i) (o := off) (r := l + r) len cap (c' - l) hi hlc (by omega) (by omega)
    have e2 : placeOf s z (some r) + off + l * sz = s + (l + r) * z.1 + off := by
      simp only [placeOf, Nat.add_mul, hz]; omega
    rw [e2]
    exact this
  unfold cutA at h
  split at h
  · rename_i sh N g ho
    rw [nthL_eq] at ho
    split at h
    · rename_i r
      split at h
      · rename_i hz
        rw [Nat.beq_eq] at hz
        obtain ⟨l0, h1, h0, _⟩ := hc.obj i _ ho
        rw [hi] at h1
        cases h1
        exact fin r rfl ((h0 b s z rfl).trans hz) h
      · exact h.elim
    · exact h.elim
  · rename_i e0 sh N g ho
    rw [nthL_eq] at ho
    split at h
    · rename_i r
      split at h
      · rename_i hz
        rw [Nat.beq_eq] at hz
        obtain ⟨l0, h1, h0, _⟩ := hc.obj i _ ho
        rw [hi] at h1
        cases h1
        exact fin r rfl ((h0 b s z rfl).2.trans hz) h
      · exact h.elim
    · exact h.elim
  · split at h
    · have := hn rfl
      refine ⟨_, h, ?_, fun e1 e2 ad => by subst e1; subst e2; exact .sliceE rfl rfl⟩
      have e3 : c' - l = cap := by omega
      rw [e3, placeOf, Nat.add_assoc]
      exact .slice len cap hi hlc
    · exact h.elim
  · exact h.elim
theorem cutA_some {H : List AObj} {i off l sz len cap : Nat} {sp : Option Nat} {k : Value → Out} (h : (cutA H i off sp l sz len cap k).sat Φ) : ∃ a, (k (.slice (some a) len cap)).sat Φ := by
  unfold cutA at h
  split at h
  · split at h
    · split at h
      · exact ⟨_, h⟩
      · exact h.elim
    · exact h.elim
  · split at h
    · split at h
      · exact ⟨_, h⟩
      · exact h.elim
    · exact h.elim
  · split at h
    · exact ⟨_, h⟩
    · exact h.elim
  · exact h.elim
theorem vindexAddr_ok {base : Nat} {w0 : World} {t : TypeId} {x ix : Operand} (ho : o.op = .indexAddr t x ix) (h : (vindexAddr P t S.heap (S.ev x) (S.ev ix) k).sat Φ) (hs : SC ρ S.slots a) (hc : HC base w0 ρ S.heap w) : VGoal P o Φ k ρ a w := by
  unfold vindexAddr at h
  split at h
  · rename_i e hu
    split at h
    · rename_i i off sp len c hx
      split at h
      · rename_i kk n hix
        split at h
        · rename_i inf hi
          have h1 := hs.ev hx
          have h2 := hs.ev hix
          generalize he1 : a.eval x = ux at h1
          generalize he2 : a.eval ix = ui at h2
          obtain ⟨hin, h⟩ := h
          cases h2
          rcases h1.sliceA with ⟨b, s, z, c', hm, hlc, hcc, hn, hq, rfl⟩ | ⟨hl, _⟩
          · obtain ⟨off', sp', g1, g2⟩ := stepA_ok h hc hm
            refine ⟨_, _, g1, Rn.mkPtr sp' hm, fun w' _ => quiet_val ?_⟩
            unfold execOp
            rw [ho]
            refine run_v ?_
            rw [he1, he2]
            unfold Instr.indexAt
            simp only [asIntOf, Sem.run_bind, Sem.run_pure, Result.andThen_ok, run_underlying hu]
            rw [if_pos hin]
            simp only [Sem.run_bind, run_sizeOf hi, Result.andThen_ok, Sem.run_pure, addr_add, g2]
          · exact absurd hin (by omega)
        · exact h.elim
      · exact h.elim
    · exact h.elim
  · rename_i len e hu
    split at h
    · rename_i i off hx
      split at h
      · rename_i kk n hix
        split at h
        · rename_i inf hi
          have h1 := hs.ev hx
          have h2 := hs.ev hix
          generalize he1 : a.eval x = ux at h1
          generalize he2 : a.eval ix = ui at h2
          obtain ⟨hin, h⟩ := h
          cases h2
          obtain ⟨b, s, z, hm, rfl⟩ := h1.ptrA
          refine ⟨_, _, h, Rn.mkPtr none hm, fun w' _ => quiet_val ?_⟩
          unfold execOp
          rw [ho]
          refine run_v ?_
          rw [he1, he2]
          unfold Instr.indexAt
          simp only [asIntOf, Instr.sureAddr, Sem.run_bind, Sem.run_pure, Result.andThen_ok, run_underlying hu]
          rw [if_pos hin]
          simp only [Sem.run_bind, run_sizeOf hi, Result.andThen_ok, Sem.run_pure, addr_add, placeOf, Nat.add_assoc]
        · exact h.elim
      · exact h.elim
    · exact h.elim
  · exact h.elim
theorem vfieldAddr_ok {t : TypeId} {x : Operand} {f : Nat} (ho : o.op = .fieldAddr t x f) (h : (vfieldAddr P t (S.ev x) f k).sat Φ) (hs : SC ρ S.slots a) : VGoal P o Φ k ρ a w := by
  unfold vfieldAddr at h
  split at h
  · rename_i fs hu
    split at h
    · rename_i i off sp hx
      split at h
      · rename_i fd hf
        rw [nthL_eq] at hf
        split at h
        · rename_i inf hi
          split at h
          · exact h.elim
          · rename_i z0 hz
            have h1 := hs.ev hx
            generalize he1 : a.eval x = ux at h1
            obtain ⟨b, s, z, hm, rfl⟩ := h1.ptrA
            refine ⟨_, _, h, Rn.mkPtr sp hm, fun w' _ => quiet_val ?_⟩
            unfold execOp
            rw [ho]
            refine run_v ?_
            rw [he1]
            unfold Instr.fieldAt
            have hf' : (⟨fs⟩ : Array Field)[f]? = some fd := by simpa using hf
            simp only [Sem.run_bind, run_underlying hu, Result.andThen_ok, hf', Instr.sureAddr, Sem.run_pure, fieldPlace, run_sizeOf hi, hz]
            rw [if_neg (by omega)]
            simp [addr_add, Nat.add_assoc]
        · exact h.elim
      · exact h.elim
    · exact h.elim
  · exact h.elim
theorem run_part {P : Program} {t : TypeId} {ag : Bool} {n : Nat} (hs : aggSize P t = some (ag, n)) {cs : List Value} {off : Nat} (w : World) :
    (ag = true → (part t ⟨cs⟩ off).run P w = .ok (.agg ⟨(cs.drop off).take n⟩) w) ∧ (ag = false → ∀ v, cs[off]? = some v → (part t ⟨cs⟩ off).run P w = .ok v w) := by
  unfold aggSize at hs
  cases hu : P.underlying t with
  | none => rw [hu] at hs; cases hs
  | some d =>
    rw [hu] at hs
    unfold part
    rw [Sem.run_bind, run_isAgg hu, Result.andThen_ok]
    cases hd : aggD d with
    | true =>
      simp only [hd] at hs
      cases hi : P.info? t with
      | none => rw [hi] at hs; cases hs
      | some i =>
        rw [hi] at hs
        cases hs
        refine ⟨fun _ => ?_, (fun h => by cases h)⟩
        simp [run_sizeOf hi]
    | false =>
      simp only [hd] at hs
      cases hs
      refine ⟨(fun h => by cases h), fun _ v hv => ?_⟩
      simp [hv]
theorem vfield_ok {t : TypeId} {x : Operand} {f : Nat} (ho : o.op = .field t x f) (h : (vfield P t (S.ev x) f k).sat Φ) (hs : SC ρ S.slots a) : VGoal P o Φ k ρ a w := by
  unfold vfield at h
  split at h
  · rename_i fs hu
    split at h
    · rename_i cs hx
      split at h
      · rename_i fd hf
        rw [nthL_eq] at hf
        have h1 := hs.ev hx
        generalize he1 : a.eval x = ux at h1
        cases h1 with
        | agg hl hh =>
          rename_i us
          have hrl : RL ρ cs us := ⟨hl, hh⟩
          have hf' : (⟨fs⟩ : Array Field)[f]? = some fd := by simpa using hf
          have hrun : ∀ w' u, (part fd.type ⟨us⟩ fd.offset).run P w' = .ok u w' → (execOp a.eval o).run P w' = .ok (.value u) w' := fun w' u hp => by
            unfold execOp
            rw [ho]
            refine run_v ?_
            rw [he1]
            unfold Instr.field
            simp only [Sem.run_bind, run_underlying hu, Result.andThen_ok, hf', asAgg, Sem.run_pure]
            exact hp
          split at h
          · rename_i n hsz
            split at h
            · rename_i vs hr
              exact ⟨_, _, h, Rn.aggRL (readN_cut hrl hr).1, fun w' _ => quiet_val (hrun w' _ ((run_part hsz w').1 rfl))⟩
            · exact h.elim
          · rename_i n hsz
            split at h
            · rename_i v hv
              rw [nthL_eq] at hv
              obtain ⟨u, hu', hr⟩ := hrl.get hv
              exact ⟨_, u, h, hr, fun w' _ => quiet_val (hrun w' _ ((run_part hsz w').2 rfl u hu'))⟩
            · exact h.elim
          · exact h.elim
      · exact h.elim
    · exact h.elim
  · exact h.elim
theorem vindex_ok {t : TypeId} {x ix : Operand} (ho : o.op = .index t x ix) (h : (vindex P t (S.ev x) (S.ev ix) k).sat Φ) (hs : SC ρ S.slots a) : VGoal P o Φ k ρ a w := by
  unfold vindex at h
  split at h
  · rename_i len e hu
    split at h
    · rename_i cs hx
      split at h
      · rename_i kk n hix
        split at h
        · rename_i m hsz
          split at h
          · rename_i inf hi
            split at h
            · rename_i v hv
              rw [nthL_eq] at hv
              have h1 := hs.ev hx
              have h2 := hs.ev hix
              generalize he1 : a.eval x = ux at h1
              generalize he2 : a.eval ix = ui at h2
              obtain ⟨hin, h⟩ := h
              cases h2
              cases h1 with
              | agg hl hh =>
                rename_i us
                obtain ⟨u, hu', hr⟩ := RL.get (⟨hl, hh⟩ : RL ρ cs us) hv
                refine ⟨_, u, h, hr, fun w' _ => quiet_val ?_⟩
                unfold execOp
                rw [ho]
                refine run_v ?_
                rw [he1, he2]
                unfold Instr.index
                simp only [asIntOf, Sem.run_bind, Sem.run_pure, Result.andThen_ok, run_underlying hu]
                rw [if_pos hin]
                simp only [Sem.run_bind, run_sizeOf hi, Result.andThen_ok]
                exact (run_part hsz w').2 rfl u hu'
            · exact h.elim
          · exact h.elim
        · exact h.elim
      · exact h.elim
    · exact h.elim
  · rename_i hu
    split at h
    · rename_i s hx
      split at h
      · rename_i kk n hix
        have h1 := hs.ev hx
        have h2 := hs.ev hix
        generalize he1 : a.eval x = ux at h1
        generalize he2 : a.eval ix = ui at h2
        obtain ⟨hin, h⟩ := h
        cases h1; cases h2
        refine ⟨_, _, h, .int _ _, fun w' _ => quiet_val ?_⟩
        unfold execOp
        rw [ho]
        refine run_v ?_
        rw [he1, he2]
        unfold Instr.index
        simp only [asIntOf, Sem.run_bind, Sem.run_pure, Result.andThen_ok, run_underlying hu]
        have hlt : n.toNat < s.size := by omega
        have hb : (s[n.toNat]? : Option UInt8) = some s[n.toNat] := by simp [hlt]
        rw [if_pos hin.1, hb]
        simp only [Sem.run_pure]
        congr 3
        have : s.data.toList[n.toNat]? = some s[n.toNat] := by
          rw [List.getElem?_eq_getElem (by simpa using hlt)]
          rfl
        rw [this]
        rfl
      · exact h.elim
    · exact h.elim
  · exact h.elim
theorem obnd_ok {ρ : Ren} {a : Act} {S : ASt} (hs : SC ρ S.slots a) {x : Option Operand} {y dflt : Nat} {k : Nat → Out} (h : (obnd (x.map S.ev) y dflt k).sat Φ) :
    (x = none ∧ (k dflt).sat Φ) ∨ ∃ op kk i, x = some op ∧ a.eval op = .int kk i ∧ (0 ≤ i ∧ i ≤ y) ∧ (k i.toNat).sat Φ := by
  unfold obnd at h
  cases x with
  | none => exact .inl ⟨rfl, h⟩
  | some op =>
    simp only [Option.map_some] at h
    split at h
    · rename_i he; cases he
    · rename_i kk i he
      simp only [Option.some.injEq] at he
      exact .inr ⟨op, kk, i, rfl, (clean_Rn (by rfl)).1 (hs.ev he), h.1, h.2⟩
    · exact h.elim
/-- The bounds of a slice expression without a third index. -/
theorem run_bounds {ρ : Ren} {a : Act} {S : ASt} (hs : SC ρ S.slots a) {lo hi : Option Operand} {len cap : Nat} {k : Nat → Nat → Out} (b : Bool) (h : (obnd (hi.map S.ev) cap len fun h => obnd (lo.map S.ev) h 0 fun l => k h l).sat Φ) (hlc : len ≤ cap) :
    ∃ h l, (k h l).sat Φ ∧ l ≤ h ∧ h ≤ cap ∧ ∀ w cap', cap ≤ cap' → (Instr.sliceBounds b len cap' (lo.map a.eval) (hi.map a.eval) none).run P w = .ok (l, h, cap') w := by
  have hb : ∀ (kk : IntKind) (i : Int) (y : Nat) (c : BoundsCode) (w : World), (0 ≤ i ∧ i ≤ y) → (Instr.sliceBound (.int kk i) y c).run P w = .ok i.toNat w := fun kk i y c w hi => by
    simp only [Instr.sliceBound, asIntOf, Sem.run_bind, Sem.run_pure, Result.andThen_ok]
    rw [if_pos hi]
    rfl
  rcases obnd_ok (x := hi) hs h with ⟨e1, h'⟩ | ⟨o1, k1, i1, e1, he1, hb1, h'⟩
  · subst e1
    rcases obnd_ok (x := lo) hs h' with ⟨e2, h2⟩ | ⟨o2, k2, i2, e2, he2, hb2, h2⟩
    · subst e2
      exact ⟨_, _, h2, Nat.zero_le _, hlc, fun w cap' hcc => by simp [Instr.sliceBounds]⟩
    · subst e2
      refine ⟨_, _, h2, by omega, hlc, fun w cap' hcc => ?_⟩
      simp only [Instr.sliceBounds, Option.map_none, Option.map_some, he2, Sem.run_bind, Sem.run_pure, Result.andThen_ok, hb _ _ _ _ w hb2]
  · subst e1
    rcases obnd_ok (x := lo) hs h' with ⟨e2, h2⟩ | ⟨o2, k2, i2, e2, he2, hb2, h2⟩
    · subst e2
      refine ⟨_, _, h2, Nat.zero_le _, by omega, fun w cap' hcc => ?_⟩
      simp only [Instr.sliceBounds, Option.map_none, Option.map_some, he1, Sem.run_bind, Sem.run_pure, Result.andThen_ok, hb _ _ cap' _ w ⟨hb1.1, by omega⟩]
    · subst e2
      refine ⟨_, _, h2, by omega, by omega, fun w cap' hcc => ?_⟩
      simp only [Instr.sliceBounds, Option.map_some, he1, he2, Sem.run_bind, Sem.run_pure, Result.andThen_ok, hb _ _ cap' _ w ⟨hb1.1, by omega⟩, hb _ _ _ _ w hb2]
theorem vslice_ok {base : Nat} {w0 : World} {t : TypeId} {x : Operand} {lo hi : Option Operand} (ho : o.op = .slice t x lo hi none) (h : (vslice P t S.heap (S.ev x) (lo.map S.ev) (hi.map S.ev) k).sat Φ) (hs : SC ρ S.slots a) (hc : HC base w0 ρ S.heap w) : VGoal P o Φ k ρ a w := by
  unfold vslice at h
  split at h
  · rename_i hu
    split at h
    · rename_i s hx
      have h1 := hs.ev hx
      generalize he1 : a.eval x = ux at h1
      cases h1
      obtain ⟨hh, ll, g1, g2, g3, g4⟩ := run_bounds (P := P) (k := fun hh ll => k (.string (s.extract ll hh))) hs false h (Nat.le_refl _)
      refine ⟨_, _, g1, .string _, fun w' _ => quiet_val ?_⟩
      unfold execOp
      rw [ho]
      refine run_v ?_
      rw [he1]
      simp only [Instr.sliceAt, Sem.run_bind, run_underlying hu, Result.andThen_ok, Instr.slice, Option.map_none, Option.isSome_none]
      simp [g4 _ _ (Nat.le_refl _)]
    · exact h.elim
  · rename_i e hu
    split at h
    · rename_i inf hi'
      split at h
      · rename_i i off sp len cap hx
        have h1 := hs.ev hx
        generalize he1 : a.eval x = ux at h1
        have hlc : len ≤ cap := by rcases h1.sliceA with ⟨_, _, _, _, _, h, _⟩ | ⟨h, h', _⟩ <;> omega
        obtain ⟨hh, ll, g1, g2, g3, g4⟩ := run_bounds (P := P) (k := fun hh ll => cutA S.heap i off sp ll inf.size (hh - ll) (cap - ll) k) hs true h hlc
        have hrun : ∀ w' ad cap', cap ≤ cap' → ux = .slice ad len cap' → (execOp a.eval o).run P w' = .ok (.value (.slice (if cap' = ll then ad else ad.map (·.add (ll * inf.size))) (hh - ll) (cap' - ll))) w' := fun w' ad cap' hcc hux => by
          unfold execOp
          rw [ho]
          refine run_v ?_
          rw [he1, hux]
          simp only [Instr.sliceAt, Sem.run_bind, run_underlying hu, Result.andThen_ok, Instr.slice, Option.map_none, g4 _ _ hcc, run_sizeOf hi', Sem.run_pure]
        rcases h1.sliceA with ⟨b, s, z, c', hm, _, hcc, hn, hq, rfl⟩ | ⟨hl, hcc, ad, rfl⟩
        · obtain ⟨v, e1, e2, e3⟩ := cutA_ok (c' := c') g1 hc hm (by omega) (by omega) (fun e => by have := hn e; omega) hq
          refine ⟨v, _, e1, ?_, fun w' _ => quiet_val (hrun w' _ c' hcc rfl)⟩
          by_cases hcl : c' = ll
          · have h1 : hh - ll = 0 := by omega
            have h2 : c' - ll = 0 := by omega
            rw [h1, h2]
            exact e3 (by omega) (by omega) _
          · rw [if_neg hcl]
            simp only [Option.map_some, addr_add]
            exact e2
        · obtain ⟨ad', g1⟩ := cutA_some g1
          refine ⟨_, _, g1, .sliceE (by omega) (by omega), fun w' _ => quiet_val (hrun w' _ cap (Nat.le_refl _) rfl)⟩
      · rename_i len cap hx
        have h1 := hs.ev hx
        generalize he1 : a.eval x = ux at h1
        have hlc : len ≤ cap := by cases h1 <;> omega
        obtain ⟨hh, ll, g1, g2, g3, g4⟩ := run_bounds (P := P) (k := fun hh ll => k (.slice none (hh - ll) (cap - ll))) hs true h hlc
        have hrun : ∀ w' ad, ux = .slice ad len cap → (execOp a.eval o).run P w' = .ok (.value (.slice (if cap = ll then ad else ad.map (·.add (ll * inf.size))) (hh - ll) (cap - ll))) w' := fun w' ad hux => by
          unfold execOp
          rw [ho]
          refine run_v ?_
          rw [he1, hux]
          simp only [Instr.sliceAt, Sem.run_bind, run_underlying hu, Result.andThen_ok, Instr.slice, Option.map_none, g4 _ _ (Nat.le_refl _), run_sizeOf hi', Sem.run_pure]
        cases h1 with
        | slice0 =>
          refine ⟨_, _, g1, ?_, fun w' _ => quiet_val (hrun w' _ rfl)⟩
          by_cases hcl : cap = ll
          · exact .sliceE (by omega) (by omega)
          · rw [if_neg hcl]
            exact .slice0 _ _ (by omega)
        | sliceE hl hc =>
          refine ⟨_, _, g1, .sliceE (by omega) (by omega), fun w' _ => quiet_val (hrun w' _ rfl)⟩
      · exact h.elim
    · exact h.elim
  · exact h.elim
theorem vextract_ok {x : Operand} {n : Nat} (ho : o.op = .extract x n) (h : (vextract (S.ev x) n k).sat Φ) (hs : SC ρ S.slots a) : VGoal P o Φ k ρ a w := by
  unfold vextract at h
  split at h
  · rename_i vs hx
    split at h
    · rename_i v hv
      rw [nthL_eq] at hv
      have h1 := hs.ev hx
      generalize he1 : a.eval x = ux at h1
      cases h1 with
      | tuple hl hh =>
        rename_i us
        obtain ⟨u, hu, hr⟩ := RL.get (⟨hl, hh⟩ : RL ρ vs us) hv
        refine ⟨_, u, h, hr, fun w' _ => quiet_val ?_⟩
        unfold execOp
        rw [ho]
        refine run_v ?_
        rw [he1]
        simp [Instr.extract, hu]
    · exact h.elim
  · exact h.elim
theorem vnil_ok {x : Operand} (ho : o.op = .nilCheck x) (h : (vnil (S.ev x) k).sat Φ) (hs : SC ρ S.slots a) : VGoal P o Φ k ρ a w := by
  unfold vnil at h
  split at h
  · rename_i ad hx
    have h1 := hs.ev hx
    generalize he1 : a.eval x = ux at h1
    have hrun : ∀ w' ad', ux = .pointer (some ad') → (execOp a.eval o).run P w' = .ok (.value ux) w' := fun w' ad' e => by
      unfold execOp
      rw [ho]
      subst e
      simp only [he1]
      rfl
    cases h1 with
    | ptr hm => exact ⟨_, _, h, .ptr hm, fun w' _ => quiet_val (hrun w' _ rfl)⟩
    | ptrR hm => exact ⟨_, _, h, .ptrR hm, fun w' _ => quiet_val (hrun w' _ rfl)⟩
  · exact h.elim
theorem vfunc_ok {g : Fn} {xs ys : List Operand} (ho : o.op = .makeFunc g ⟨xs⟩ ⟨ys⟩) (h : (vfunc g (evL S xs) (evL S ys) k).sat Φ) (hs : SC ρ S.slots a) : VGoal P o Φ k ρ a w := by
  unfold vfunc at h
  split at h
  · rename_i vs hx
    split at h
    · rename_i us hy
      have h1 := evL_RL hs hx
      have h2 := evL_RL hs hy
      refine ⟨_, .func g ⟨xs.map a.eval⟩ ⟨ys.map a.eval⟩, h, .func g h1.1 h1.2 h2.1 h2.2, fun w' _ => quiet_val ?_⟩
      unfold execOp
      rw [ho]
      refine run_v ?_
      simp only [Instr.makeFunc, List.map_toArray]
      rfl
    · exact h.elim
  · exact h.elim
theorem vslice3_ok {t : TypeId} {x hi mx : Operand} (ho : o.op = .slice t x none (some hi) (some mx)) (h : (vslice3 P t (S.ev x) (S.ev hi) (S.ev mx) k).sat Φ) (hs : SC ρ S.slots a) : VGoal P o Φ k ρ a w := by
  unfold vslice3 at h
  split at h
  · rename_i e hu
    split at h
    · rename_i inf hinf
      split at h
      · rename_i ad l c hx
        split at h
        · rename_i m1 hh
          split at h
          · rename_i m2 hm
            obtain ⟨⟨rfl, rfl⟩, h⟩ := h
            have h1 := hs.ev hx
            have h2 := (clean_Rn (by rfl)).1 (hs.ev hh)
            have h3 := (clean_Rn (by rfl)).1 (hs.ev hm)
            generalize he1 : a.eval x = ux at h1
            have hex : ∃ ad' l' c', ux = .slice ad' l' c' := by cases h1 <;> exact ⟨_, _, _, rfl⟩
            obtain ⟨ad', l', c', rfl⟩ := hex
            refine ⟨_, .slice ad' 0 0, h, .sliceE rfl rfl, fun w' _ => quiet_val ?_⟩
            unfold execOp
            rw [ho]
            refine run_v ?_
            rw [he1]
            simp only [Option.map_some, Option.map_none, h2, h3]
            have hb : ∀ (y : Nat) (cd : BoundsCode), (Instr.sliceBound (.int .i64 0) y cd).run P w' = .ok 0 w' := fun y cd => by
              simp only [Instr.sliceBound, asIntOf, Sem.run_bind, Sem.run_pure, Result.andThen_ok]
              rw [if_pos ⟨by omega, by omega⟩]
              rfl
            simp only [Instr.sliceAt, Sem.run_bind, run_underlying hu, Result.andThen_ok, Instr.slice, Instr.sliceBounds, hb, Sem.run_pure, run_sizeOf hinf]
            simp
          · exact h.elim
        · exact h.elim
      · exact h.elim
    · exact h.elim
  · exact h.elim
theorem run_zero0 {P : Program} {t : TypeId} {inf : TypeInfo} {z : Value} (h1 : P.info? t = some inf) (h2 : inf.zero = some z) (w : World) : (zeroValue t).run P w = .ok z w := by
  simp [zeroValue, typeInfo, program, Sem.run, h1, h2]
theorem allE_at : ∀ {l : List MapEntry} {e : MapEntry}, allE l = true → e ∈ l → clean e.key = true ∧ clean e.val = true
  | x :: l, e, h, he => by
    simp only [allE, entC, Bool.and_eq_true] at h
    rcases List.mem_cons.1 he with rfl | he
    · exact h.1
    · exact allE_at h.2 he
theorem vfind_ok {n : Int} {hit : Value → Out} {miss : Out} {Φ : Lf} : ∀ (l : List MapEntry) (j : Nat), allE l = true → (vfind n l hit miss).sat Φ →
    (∃ q v, Instr.findNow (.int .i64) (.int .i64 n) l j = some (some (q, v)) ∧ clean v = true ∧ (hit v).sat Φ) ∨ (Instr.findNow (.int .i64) (.int .i64 n) l j = some none ∧ miss.sat Φ)
  | [], j, _, h => .inr ⟨rfl, h⟩
  | e :: l, j, ha, h => by
    unfold vfind at h
    simp only [allE, entC, Bool.and_eq_true] at ha
    split at h
    · rename_i m hk
      have hs : Instr.sameNow (.int .i64) (.int .i64 n) e.key = some (n == m) := by rw [hk]; simp [Instr.sameNow]
      rcases tst_sat h with ⟨e1, h⟩ | ⟨e1, h⟩
      · refine .inl ⟨j, e.val, ?_, ha.1.2, h⟩
        unfold Instr.findNow
        rw [hs, e1]
      · have hf : Instr.findNow (.int .i64) (.int .i64 n) (e :: l) j = Instr.findNow (.int .i64) (.int .i64 n) l (j + 1) := by
          show (match Instr.sameNow (.int .i64) (.int .i64 n) e.key with | some true => some (some (j, e.val)) | some false => Instr.findNow (.int .i64) (.int .i64 n) l (j + 1) | none => none) = _
          rw [hs, e1]
        rw [hf]
        exact vfind_ok l (j + 1) ha.2 h
    · exact h.elim
theorem vlookup_ok {base : Nat} {w0 : World} {t : TypeId} {x ix : Operand} (ho : o.op = .lookup t x ix true) (h : (vlookup P t S.heap (S.ev x) (S.ev ix) k).sat Φ) (hs : SC ρ S.slots a) (hc : HC base w0 ρ S.heap w) : VGoal P o Φ k ρ a w := by
  unfold vlookup at h
  split at h
  · rename_i kt et hu
    split at h
    · rename_i huk
      split at h
      · rename_i i hx
        split at h
        · rename_i n hix
          split at h
          · rename_i es c hi
            split at h
            · rename_i inf hinf
              split at h
              · rename_i z hz
                split at h
                · rename_i hcl
                  rw [nthL_eq] at hi
                  obtain ⟨b, g1, g2, g3, g4⟩ := hc.obj i _ hi
                  have h1 := hs.ev hx
                  have h2 := (clean_Rn (by rfl)).1 (hs.ev hix)
                  generalize he1 : a.eval x = ux at h1
                  cases h1 with
                  | map hm =>
                    rename_i b'
                    rw [hm] at g1
                    cases g1
                    have hlt := hc.lt i b 0 (0, 0) hm
                    have hblk : ∀ w', Below w.heap.size w w' → w'.heap[b]? = some (.map ⟨es⟩ c) := fun w' hw' => (hw'.block b hlt).trans g4
                    have hkey : MapKept.IsKey (.int .i64) (.int .i64 n) := rfl
                    rcases vfind_ok es 0 g3 h with ⟨q, v, e1, e2, h⟩ | ⟨e1, h⟩
                    · refine ⟨_, .tuple ⟨[v, .bool true]⟩, h, Rn.tupRL (.cons ((clean_Rn e2).2 rfl) (.cons (.bool true) (.nil ρ))), fun w' hw' => quiet_val ?_⟩
                      unfold execOp
                      rw [ho]
                      refine run_v ?_
                      rw [he1, h2]
                      simp [Instr.lookup, run_underlying hu, MapKept.run_getObj_map (hblk w' hw'), MapKept.run_checkKey huk hkey, MapKept.run_findKey huk e1, Result.andThen]
                    · refine ⟨_, .tuple ⟨[z, .bool false]⟩, h, Rn.tupRL (.cons ((clean_Rn hcl).2 rfl) (.cons (.bool false) (.nil ρ))), fun w' hw' => quiet_val ?_⟩
                      unfold execOp
                      rw [ho]
                      refine run_v ?_
                      rw [he1, h2]
                      simp [Instr.lookup, run_underlying hu, MapKept.run_getObj_map (hblk w' hw'), MapKept.run_checkKey huk hkey, MapKept.run_findKey huk e1, run_zero0 hinf hz, Result.andThen]
                · exact h.elim
              · exact h.elim
            · exact h.elim
          · exact h.elim
        · exact h.elim
      · exact h.elim
    · exact h.elim
  · exact h.elim
theorem vlen_ok {xs : List Operand} {ts : List TypeId} (ho : o.op = .call ⟨.builtin .len, ⟨xs⟩, ⟨ts⟩⟩) (h : (vlen P ts (evL S xs) k).sat Φ) (hs : SC ρ S.slots a) : VGoal P o Φ k ρ a w := by
  unfold vlen at h
  split at h
  · rename_i t ts'
    split at h
    · rename_i v hx
      have hr := evL_RL hs hx
      obtain ⟨u, us', e, h1, h2⟩ := hr.cons_inv
      have := h2.nil_inv
      subst this
      have hrun : ∀ w' r, (Builtin.len_ ⟨t :: ts'⟩ o.type ⟨[u]⟩).run P w' = .ok r w' → (execOp a.eval o).run P w' = .ok (.value r) w' := fun w' r hl => by
        unfold execOp
        rw [ho]
        simp only [resolve, List.map_toArray, e, invoke, builtin]
        rw [Sem.run_bind]
        simp only [Sem.run_pure, Result.andThen_ok]
        exact run_v hl
      split at h
      · rename_i e' hu
        split at h
        · rename_i ad n c
          refine ⟨_, .int .i64 n, h, .int _ _, fun w' _ => quiet_val (hrun w' _ ?_)⟩
          unfold Builtin.len_
          cases h1 <;> simp [run_underlying hu, goInt]
        · exact h.elim
      · rename_i hu
        split at h
        · rename_i s
          refine ⟨_, .int .i64 s.size, h, .int _ _, fun w' _ => quiet_val (hrun w' _ ?_)⟩
          unfold Builtin.len_
          cases h1
          simp [run_underlying hu, goInt]
        · exact h.elim
      · exact h.elim
    · exact h.elim
  · exact h.elim
end
end Go.Proofs.Ytpkckgdpdnkbeaa
