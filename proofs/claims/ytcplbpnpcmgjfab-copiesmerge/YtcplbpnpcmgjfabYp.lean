/- A symbolic run of Go code: regions in any order: lists, places, what an operation does in a memory of which it sees a part. -/
import Derived.Test.YtcplbpnpcmgjfabYn
namespace Go.Proofs.Ytcplbpnpcmgjfab
open Go.RowKit
theorem setO_same {α : Type} : ∀ (l : List (Option α)) (t : Nat) {v : α}, nthO l t = some v → setO l t v = l
  | [], _, _, h => by cases h
  | x :: l, 0, v, h => by cases x <;> simp [nthO] at h; subst h; rfl
  | x :: l, t + 1, v, h => by simp only [setO]; rw [setO_same l t h]
theorem memN_iff {t : Nat} : ∀ {l : List Nat}, memN t l = true ↔ t ∈ l
  | [] => by simp [memN]
  | u :: l => by simp only [memN, Bool.or_eq_true, List.mem_cons, memN_iff (l := l), Nat.beq_eq]
theorem maskS_len (keep : List Nat) : ∀ (j : Nat) (l : List (Option Value)), (maskS keep j l).length = l.length
  | _, [] => rfl
  | j, v :: l => by simp [maskS, maskS_len keep (j + 1) l]
theorem maskS_at (keep : List Nat) : ∀ (l : List (Option Value)) (j t : Nat) {v : Value}, nthO (maskS keep j l) t = some v → nthO l t = some v ∧ j + t ∈ keep
  | [], _, _, _, h => by cases h
  | x :: l, j, 0, v, h => by
    simp only [maskS, nthO] at h
    cases hb : memN j keep with
    | true => rw [hb] at h; exact ⟨h, memN_iff.1 hb⟩
    | false => rw [hb] at h; cases h
  | x :: l, j, t + 1, v, h => by
    have := maskS_at keep l (j + 1) t h
    exact ⟨this.1, by rw [show j + (t + 1) = j + 1 + t by omega]; exact this.2⟩
theorem maskH_len (all : Bool) (gone : List Nat) : ∀ (j : Nat) (l : List AObj), (maskH all gone j l).length = l.length
  | _, [] => rfl
  | j, v :: l => by simp [maskH, maskH_len all gone (j + 1) l]
theorem maskH_at (all : Bool) (gone : List Nat) : ∀ (l : List AObj) (j i : Nat) {o : AObj}, (maskH all gone j l)[i]? = some o → o = .gone ∨ (l[i]? = some o ∧ all = false ∧ j + i ∉ gone)
  | [], _, _, _, h => by simp [maskH] at h
  | x :: l, j, 0, o, h => by
    simp only [maskH, List.getElem?_cons_zero, Option.some.injEq] at h
    cases hb : (all || memN j gone) with
    | true => rw [hb] at h; exact .inl h.symm
    | false =>
      rw [hb] at h
      rw [Bool.or_eq_false_iff] at hb
      exact .inr ⟨by simpa using h, hb.1, fun hm => by rw [Nat.add_zero, ← memN_iff, hb.2] at hm; cases hm⟩
  | x :: l, j, i + 1, o, h => by
    simp only [maskH, List.getElem?_cons_succ] at h
    rcases maskH_at all gone l (j + 1) i h with h | ⟨h1, h2, h3⟩
    · exact .inl h
    · exact .inr ⟨by simpa using h1, h2, by rw [show j + (i + 1) = j + 1 + i by omega]; exact h3⟩
/-- A memory of which less is said. -/
theorem HC.mask {base : Nat} {w0 w : World} {ρ : Ren} {H T : List AObj} (h : HC base w0 ρ H w) (hl : T.length = H.length) (hm : ∀ (i : Nat) o, T[i]? = some o → o = .gone ∨ H[i]? = some o) : HC base w0 ρ T w := by
  refine ⟨h.below, h.floor, fun i o ho => ?_, fun i l e => by rw [hl]; exact h.dom i l e, h.lt, fun i j o1 b s z c s' z' o h1 ho1 h2 hg e1 e2 hne => ?_⟩
  · rcases hm i o ho with rfl | h1
    · trivial
    · exact h.obj i o h1
  · rcases hm i _ h1 with e | h1
    · subst e; cases ho1
    · rcases hm j _ h2 with e | h2
      · exact (hg e).elim
      · exact h.apart i j o1 b s z c s' z' o h1 ho1 h2 hg e1 e2 hne
/-- A NEW BLOCK OF OURS, at a place that is laid for it. -/
theorem HC.newAt {base : Nat} {w0 w : World} {ρ : Ren} {H : List AObj} (h : HC base w0 ρ H w) {T id : Nat} {cs us : List Value} (hr : RL ρ cs us) (hid : id < H.length) (hno : ρ id = none) :
    HC base w0 (upd ρ id (some (w.heap.size, 0, 0))) (H.set id (.cells T cs)) (w.alloc (.cells ⟨us⟩ T)) ∧ RLe ρ (upd ρ id (some (w.heap.size, 0, 0))) := by
  have hle := upd_le (l := some (w.heap.size, 0, 0)) hno
  have hb : Below w.heap.size w (w.alloc (.cells ⟨us⟩ T)) := (Below.refl _ _).alloc (Nat.le_refl _) _
  have hs : (w.alloc (.cells ⟨us⟩ T)).heap.size = w.heap.size + 1 := by show (w.heap.push _).size = _; simp
  have hnew : upd ρ id (some (w.heap.size, 0, 0)) id = some (some (w.heap.size, 0, 0)) := if_pos rfl
  have hold : ∀ i, i ≠ id → upd ρ id (some (w.heap.size, 0, 0)) i = ρ i := fun i hi => if_neg hi
  have hget : ∀ i o, i ≠ id → (H.set id (.cells T cs))[i]? = some o → H[i]? = some o := fun i o hi e => by rw [List.getElem?_set_ne (Ne.symm hi)] at e; exact e
  refine ⟨⟨h.below.trans (hb.mono h.floor), (by rw [hs]; have := h.floor; omega), ?_, ?_, ?_, ?_⟩, hle⟩
  · intro i o ho
    by_cases hi : i = id
    · subst hi
      rw [List.getElem?_set_self hid] at ho
      cases ho
      refine ⟨w.heap.size, us, hnew, h.floor, hr.mono hle, ?_⟩
      show (w.heap.push _)[w.heap.size]? = _
      simp
    · exact ((h.obj i o (hget i o hi ho)).below hb (fun b s z e => h.lt i b s z e)).mono hle
  · intro i l e
    rw [List.length_set]
    by_cases hi : i = id
    · subst hi; exact hid
    · rw [hold i hi] at e; exact h.dom i l e
  · intro i b s z e
    rw [hs]
    by_cases hi : i = id
    · subst hi; rw [hnew] at e; cases e; omega
    · rw [hold i hi] at e; have := h.lt i b s z e; omega
  · intro i j o1 b s z c s' z' o hi ho1 hj hg e1 e2 hij hbc
    by_cases h1 : i = id
    · subst h1
      have h2 : j ≠ i := fun e => hij e.symm
      rw [hnew] at e1; cases e1
      rw [hold j h2] at e2
      have := h.lt j c s' z' e2
      omega
    · by_cases h2 : j = id
      · subst h2
        rw [hnew] at e2; cases e2
        rw [hold i h1] at e1
        have := h.lt i b s z e1
        omega
      · rw [hold i h1] at e1
        rw [hold j h2] at e2
        exact h.apart i j o1 b s z c s' z' o (hget i _ h1 hi) ho1 (hget j _ h2 hj) hg e1 e2 hij hbc
theorem undef_Rn (ρ : Ren) : Rn ρ undef undef := (clean_Rn (by rfl)).2 rfl
theorem SC.putO {ρ : Ren} {sl : List (Option Value)} {a : Act} (h : SC ρ sl a) (d : Option Tmp) {v u : Value} (hv : Rn ρ v u) : SC ρ (putO sl d v) (a.put d u) := by
  have := SC.put (S := ⟨sl, []⟩) h d hv
  cases d <;> exact this
theorem repL_len : ∀ (n : Nat) (z : List Value), (repL n z).length = n * z.length
  | 0, z => by simp [repL]
  | n + 1, z => by rw [repL, List.length_append, repL_len n z, Nat.add_mul]; omega
theorem repL_at : ∀ (n : Nat) (z : List Value) (i : Nat), 0 < z.length → i < n * z.length → (repL n z)[i]? = z[i % z.length]?
  | 0, z, i, _, h => by simp at h
  | n + 1, z, i, hz, h => by
    rw [repL, List.getElem?_append]
    split
    · rename_i hi; rw [Nat.mod_eq_of_lt hi]
    · rename_i hi
      rw [repL_at n z (i - z.length) hz (by rw [Nat.add_mul] at h; omega)]
      congr 1
      exact (Nat.mod_eq_sub_mod (by omega)).symm
theorem repL_range {z : List Value} (hz : 0 < z.length) (n : Nat) : (Array.range (n * z.length)).map ((⟨z⟩ : Array Value)[· % (⟨z⟩ : Array Value).size]!) = ⟨repL n z⟩ := by
  apply Array.ext'
  refine List.ext_getElem? fun i => ?_
  simp only [Array.toList_map, Array.toList_range, List.getElem?_map]
  rcases Nat.lt_or_ge i (n * z.length) with hi | hi
  · rw [repL_at n z i hz hi, List.getElem?_range hi]
    have hm : i % z.length < z.length := Nat.mod_lt _ hz
    simp [hm]
  · rw [List.getElem?_eq_none (by simpa using hi), List.getElem?_eq_none (by rw [repL_len]; exact hi)]
    rfl
theorem run_zero {P : Program} {t : TypeId} {inf : TypeInfo} {z : Value} (h1 : P.info? t = some inf) (h2 : inf.zero = some z) (w : World) : (zeroValue t).run P w = .ok z w := by
  simp [zeroValue, typeInfo, program, Sem.run, h1, h2]
theorem allB_mem {f : Value → Bool} {l : List Value} (h : allB f l = true) : ∀ v ∈ l, f v = true := fun v hv => by
  obtain ⟨i, hi⟩ := List.mem_iff_getElem?.1 hv
  exact allB_at h i v hi
theorem RL.scal {ρ : Ren} : ∀ {vs us : List Value}, RL ρ vs us → (∀ v ∈ vs, scal v = true) → ∀ u ∈ us, Go.Proofs.Ytcplbpnpcmgjfab.scal u = true
  | [], us, h, _, u, hu => by rw [h.nil_inv] at hu; cases hu
  | v :: vs, us, h, hs, u, hu => by
    obtain ⟨x, us', rfl, h1, h2⟩ := h.cons_inv
    rcases List.mem_cons.1 hu with rfl | hu
    · exact h1.scal (hs v (List.mem_cons_self ..))
    · exact RL.scal h2 (fun y hy => hs y (List.mem_cons_of_mem _ hy)) u hu
def isNew : Op → Bool
  | .alloc _ | .box .. | .buildSlice .. => true
  | _ => false
theorem run_buildSlice {P : Program} {t e : TypeId} {len : Nat} {inf : TypeInfo} {z : Value} {qs : List (Nat × Value)} {cs : List Value} (hu : P.underlying t = some (.slice e)) (hi : P.info? e = some inf) (hz : inf.zero = some z)
    (hc2 : (cellsL z).length = inf.size) (hc3 : 0 < inf.size) (hc4 : len * inf.size ≤ 16777216) (hl : lfill (fun i => some (i * inf.size, inf.size)) (repL len (cellsL z)) qs = some cs) (w : World) :
    (Instr.buildSlice t len ⟨qs⟩).run P w = .ok (.slice (some ⟨w.heap.size, 0, none⟩) len len) (w.alloc (.cells ⟨cs⟩ e)) := by
  have hfe := fill_eq (fun i => some (i * inf.size, inf.size)) qs (repL len (cellsL z))
  rw [hl] at hfe
  have hrr := repL_range (z := cellsL z) (by omega) len
  rw [hc2] at hrr
  simp only [Instr.buildSlice, Sem.run_bind, run_underlying hu, run_sizeOf hi, Result.andThen_ok]
  rw [if_neg (by omega)]
  by_cases hl0 : len = 0
  · subst hl0
    simp only [Nat.zero_mul, if_true, Sem.run_bind, Sem.run_pure, Result.andThen_ok]
    have hr0 : (Array.map (fun x => (#[] : Array Value)[x % (#[] : Array Value).size]!) (Array.range 0)) = ⟨repL 0 (cellsL z)⟩ := by simp [repL]
    rw [hr0, hfe]
    rfl
  · rw [if_neg (by have : 0 < len * inf.size := Nat.mul_pos (by omega) hc3; omega)]
    simp only [Sem.run_bind, run_zero hi hz, Result.andThen_ok, Sem.run_pure, cellsL_eq]
    rw [hrr, hfe]
    rfl
theorem effH_new (H : List AObj) (i T : Nat) (cs : List Value) : effH H (.new i T cs) = H.set i (.cells T cs) := setL_eq _ _ _
theorem effH_set (H : List AObj) (i T : Nat) (cs : List Value) : effH H (.set i T cs) = H.set i (.cells T cs) := setL_eq _ _ _
/-- AN OPERATION IN A MEMORY OF WHICH IT SEES A PART. -/
theorem rx_ok {En : Env} (hE : En.Ok) {o : Oper} {Sr : ASt} {id : Nat} {k : Value × Eff → Out} {Φ : Lf} {base : Nat} {w0 w : World} {ρ : Ren} {H : List AObj} {a : Act} (h : (rx En o Sr id k).sat Φ) (hs : SC ρ Sr.slots a) (hc : HC base w0 ρ H w)
    (hlen : Sr.heap.length = H.length) (hm : ∀ (i : Nat) o, Sr.heap[i]? = some o → o = .gone ∨ H[i]? = some o) (hid : isNew o.op = true → id < H.length ∧ ρ id = none) :
    ∃ v e, (k (v, e)).sat Φ ∧ ∀ (next : Act → World → Prop) (Q : Exit → Act → World → Prop), (∀ u ρ' w', Rn ρ' v u → RLe ρ ρ' → (∀ i, i ≠ id → ρ' i = ρ i) → HC base w0 ρ' (effH H e) w' → next (a.put o.dst u) w') → o.wp En.P a w next Q := by
  have hc' := hc.mask hlen hm
  unfold rx at h
  split at h
  · rename_i t ho
    split at h
    · rename_i inf hi
      split at h
      · rename_i z hz
        split at h
        · rename_i hcl
          obtain ⟨hid, hno⟩ := hid (by rw [ho]; rfl)
          obtain ⟨h1, h2⟩ := hc.newAt (T := t) (selfB_Rn hcl).cellsL hid hno
          refine ⟨_, _, h, fun next Q hn => ?_⟩
          unfold Oper.wp
          have hrun : (execOp a.eval o).run En.P w = .ok (.value (.pointer (some ⟨w.heap.size, 0, none⟩))) (w.alloc (.cells ⟨cellsL z⟩ t)) := by
            unfold execOp
            rw [ho]
            simp only [Instr.alloc, Sem.run_bind, run_zero hi hz, Result.andThen_ok, newVar, newRow, newObj, cellsL_eq]
            rfl
          rw [hrun]
          refine hn _ _ _ ?_ h2 (fun i hi => if_neg hi) (by rw [effH_new]; exact h1)
          have hp := Rn.ptr (ρ := upd ρ id (some (w.heap.size, 0, 0))) (i := id) (o := 0) (b := w.heap.size) (s := 0) (z := 0) (if_pos rfl)
          exact hp
        · exact h.elim
      · exact h.elim
    · exact h.elim
  · rename_i t x ho
    split at h
    · rename_i v hx
      obtain ⟨hid, hno⟩ := hid (by rw [ho]; rfl)
      obtain ⟨h1, h2⟩ := hc.newAt (T := t) (hs.ev hx).cellsL hid hno
      refine ⟨_, _, h, fun next Q hn => ?_⟩
      unfold Oper.wp
      have hrun : (execOp a.eval o).run En.P w = .ok (.value (.pointer (some ⟨w.heap.size, 0, none⟩))) (w.alloc (.cells ⟨cellsL (a.eval x)⟩ t)) := by
        unfold execOp
        rw [ho]
        simp only [Instr.box, Sem.run_bind, newVar, newRow, newObj, cellsL_eq]
        rfl
      rw [hrun]
      refine hn _ _ _ ?_ h2 (fun i hi => if_neg hi) (by rw [effH_new]; exact h1)
      have hp := Rn.ptr (ρ := upd ρ id (some (w.heap.size, 0, 0))) (i := id) (o := 0) (b := w.heap.size) (s := 0) (z := 0) (if_pos rfl)
      exact hp
    · exact h.elim
  · rename_i t x y ho
    split at h
    · rename_i i off hx
      split at h
      · rename_i T cs hi
        rw [nthL_eq] at hi
        have hiH : H[i]? = some (.cells T cs) := by
          rcases hm i _ hi with e | e
          · cases e
          · exact e
        split at h
        · rename_i v hy
          split at h
          · rename_i inf hinf
            split at h
            · rename_i hch
              simp only [Bool.and_eq_true, Nat.beq_eq, Nat.ble_eq] at hch
              obtain ⟨⟨hc1, hc2⟩, hc3⟩ := hch
              have h1 := hs.ev hx
              have h2 := hs.ev hy
              generalize he1 : a.eval x = ux at h1
              generalize he2 : a.eval y = uy at h2
              cases h1 with
              | ptr hmm =>
                rename_i b s z
                obtain ⟨b', us, g1, g2, g3, g4⟩ := hc.obj i _ hiH
                rw [hmm] at g1
                cases g1
                have hcl := h2.cellsL
                obtain ⟨w', r1, r2, r3⟩ := run_storeCells En.P b off T (cellsL uy) us 0 w (hcl.scal (allB_mem hc3)) g4 (by rw [← hcl.1, ← g3.1]; omega)
                refine ⟨_, _, h, fun next Q hn => ?_⟩
                unfold Oper.wp
                have hrun : (execOp a.eval o).run En.P w = .ok .skip w' := by
                  unfold execOp
                  rw [ho]
                  simp only [Instr.storeAt, he1, he2, Instr.sureAddr, Sem.run_bind, Sem.run_pure, Result.andThen_ok, storeVar, run_sizeOf hinf, cellsL_eq, Nat.zero_add]
                  rw [if_neg (by simp [← hcl.1, hc1])]
                  rw [r1]
                  rfl
                rw [hrun]
                refine hn _ ρ w' (undef_Rn ρ) (RLe.refl ρ) (fun _ _ => rfl) ?_
                rw [effH_set]
                exact hc.set hiH hmm (RL.putAt off hcl g3) r2 (by simpa using r3)
            · exact h.elim
          · exact h.elim
        · exact h.elim
      · exact h.elim
    · exact h.elim
  · rename_i t len ps ho
    split at h
    · rename_i e hu
      split at h
      · rename_i inf hi
        split at h
        · rename_i z hz
          split at h
          · rename_i hch
            simp only [Bool.and_eq_true, Nat.beq_eq, Nat.ble_eq, Nat.blt_eq] at hch
            obtain ⟨⟨⟨hc1, hc2⟩, hc3⟩, hc4⟩ := hch
            split at h
            · rename_i qs hq
              split at h
              · rename_i cs hcs
                obtain ⟨hid, hno⟩ := hid (by rw [ho]; rfl)
                have hP := evP_PL hs hq
                have hzz : RL ρ (cellsL z) (cellsL z) := (selfB_Rn hc1).cellsL
                have hrep : ∀ n, RL ρ (repL n (cellsL z)) (repL n (cellsL z)) := fun n => by
                  induction n with
                  | zero => exact .nil ρ
                  | succ n ih => exact hzz.append ih
                obtain ⟨o2, h1, h2⟩ := lfill_RL hP (hrep len) hcs
                obtain ⟨n1, n2⟩ := hc.newAt (T := e) h2 hid hno
                refine ⟨_, _, h, fun next Q hn => ?_⟩
                unfold Oper.wp
                have hrun : (execOp a.eval o).run En.P w = .ok (.value (.slice (some ⟨w.heap.size, 0, none⟩) len len)) (w.alloc (.cells ⟨o2⟩ e)) := by
                  unfold execOp
                  rw [ho]
                  simp only [List.map_toArray, Sem.run_bind, run_buildSlice hu hi hz hc2 hc3 hc4 h1 w]
                  rfl
                rw [hrun]
                refine hn _ _ _ ?_ n2 (fun i hi => if_neg hi) (by rw [effH_new]; exact n1)
                exact Rn.slice (ρ := upd ρ id (some (w.heap.size, 0, 0))) (i := id) (o := 0) (b := w.heap.size) (s := 0) (z := 0) len len (if_pos rfl) (Nat.le_refl _)
              · exact h.elim
            · exact h.elim
          · exact h.elim
        · exact h.elim
      · exact h.elim
    · exact h.elim
  · obtain ⟨v, u, h1, h2, h3⟩ := vop_ok hE h hs hc'
    refine ⟨v, .none, h1, fun next Q hn => ?_⟩
    refine Oper.wp_of_quiet (C := fun w' => Below w.heap.size w w') (K := fun a' => a' = a.put o.dst u) (Below.refl _ _) (fun a' w' hw' e => ?_) ⟨u, h3, rfl⟩
    subst e
    exact hn u ρ w' h2 (RLe.refl ρ) (fun _ _ => rfl) (hc.step hw')
theorem det_rx {En : Env} (hE : En.Ok) (o : Oper) (S : ASt) (id : Nat) : Det (rx En o S id) := fun k Φ h => by
  unfold rx at h
  split at h
  · rename_i t ho
    split at h
    · rename_i inf hi
      split at h
      · rename_i z hz
        split at h
        · rename_i hs
          exact ⟨_, h, fun k' Φ' h' => by unfold rx; simp only [ho, hi, hz, hs]; exact h'⟩
        · exact h.elim
      · exact h.elim
    · exact h.elim
  · rename_i t x ho
    split at h
    · rename_i v hx
      exact ⟨_, h, fun k' Φ' h' => by unfold rx; simp only [ho, hx]; exact h'⟩
    · exact h.elim
  · rename_i t x y ho
    split at h
    · rename_i i off hx
      split at h
      · rename_i T cs hi
        split at h
        · rename_i v hy
          split at h
          · rename_i inf hinf
            split at h
            · rename_i hch
              exact ⟨_, h, fun k' Φ' h' => by unfold rx; simp only [ho, hx, hi, hy, hinf, hch]; exact h'⟩
            · exact h.elim
          · exact h.elim
        · exact h.elim
      · exact h.elim
    · exact h.elim
  · rename_i t len ps ho
    split at h
    · rename_i e hu
      split at h
      · rename_i inf hi
        split at h
        · rename_i z hz
          split at h
          · rename_i hch
            split at h
            · rename_i qs hq
              split at h
              · rename_i cs hcs
                exact ⟨_, h, fun k' Φ' h' => by unfold rx; simp only [ho, hu, hi, hz, hch, hq, hcs]; exact h'⟩
              · exact h.elim
            · exact h.elim
          · exact h.elim
        · exact h.elim
      · exact h.elim
    · exact h.elim
  · rename_i h1 h2 h3 h4
    obtain ⟨v, g1, g2⟩ := det_vop hE o S _ _ h
    refine ⟨_, g1, fun k' Φ' h' => ?_⟩
    unfold rx
    split
    · rename_i t ho; exact absurd ho (h1 t)
    · rename_i t x ho; exact absurd ho (h2 t x)
    · rename_i t x y ho; exact absurd ho (h3 t x y)
    · rename_i t len ps ho; exact absurd ho (h4 t len ps)
    · exact g2 _ _ h'
end Go.Proofs.Ytcplbpnpcmgjfab
