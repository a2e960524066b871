/- A symbolic run of Go code: regions in any order: lists, places, what an operation does in a memory of which it sees a part. -/
import Derived.Test.YtpkckgdpdnkbeaaZn
import Derived.Laws.MakeOwn
namespace Go.Proofs.Ytpkckgdpdnkbeaa
open Go.RowKit
theorem setO_same {α : Type} : ∀ (l : List (Option α)) (t : Nat) {v : α}, nthO l t = some v → setO l t v = l
  | [], _, _, h => by cases h
  | x :: l, 0, v, h => by cases x <;> simp [nthO] at h; subst h; rfl
  | x :: l, t + 1, v, h => by simp only [setO]; rw [setO_same l t h]
theorem memN_iff {t : Nat} : ∀ {l : List Nat}, memN t l = true ↔ t ∈ l
  | [] => by simp [memN]
  | u :: l => by simp only [memN, Bool.or_eq_true, List.mem_cons, memN_iff (l := l), Nat.beq_eq]
theorem maskS_len (keep : List Nat) : ∀ (j : Nat) (l : List (Option Value)), (maskS keep j l).length = l.length
  | _, [] => rfl
  | j, v :: l => by simp [maskS, maskS_len keep (j + 1) l]
theorem maskS_at (keep : List Nat) : ∀ (l : List (Option Value)) (j t : Nat) {v : Value}, nthO (maskS keep j l) t = some v → nthO l t = some v ∧ j + t ∈ keep
  | [], _, _, _, h => by cases h
  | x :: l, j, 0, v, h => by
    simp only [maskS, nthO] at h
    cases hb : memN j keep with
    | true => rw [hb] at h; exact ⟨h, memN_iff.1 hb⟩
    | false => rw [hb] at h; cases h
  | x :: l, j, t + 1, v, h => by
    have := maskS_at keep l (j + 1) t h
    exact ⟨this.1, by rw [show j + (t + 1) = j + 1 + t by omega]; exact this.2⟩
theorem maskH_len (all : Fp) (gone : List Nat) : ∀ (j : Nat) (l : List AObj), (maskH all gone j l).length = l.length
  | _, [] => rfl
  | j, v :: l => by simp [maskH, maskH_len all gone (j + 1) l]
theorem maskH_at (all : Fp) (gone : List Nat) : ∀ (l : List AObj) (j i : Nat) {o : AObj}, (maskH all gone j l)[i]? = some o → o = .gone ∨ (l[i]? = some o ∧ seen all (j + i) = true ∧ j + i ∉ gone)
  | [], _, _, _, h => by simp [maskH] at h
  | x :: l, j, 0, o, h => by
    simp only [maskH, List.getElem?_cons_zero, Option.some.injEq] at h
    cases hb : (!(seen all j) || memN j gone) with
    | true => rw [hb] at h; exact .inl h.symm
    | false =>
      rw [hb] at h
      rw [Bool.or_eq_false_iff] at hb
      exact .inr ⟨by simpa using h, by rw [Nat.add_zero]; simpa using hb.1, fun hm => by rw [Nat.add_zero, ← memN_iff, hb.2] at hm; cases hm⟩
  | x :: l, j, i + 1, o, h => by
    simp only [maskH, List.getElem?_cons_succ] at h
    rcases maskH_at all gone l (j + 1) i h with h | ⟨h1, h2, h3⟩
    · exact .inl h
    · exact .inr ⟨by simpa using h1, by rw [show j + (i + 1) = j + 1 + i by omega]; exact h2, by rw [show j + (i + 1) = j + 1 + i by omega]; exact h3⟩
theorem undef_Rn (ρ : Ren) : Rn ρ undef undef := (clean_Rn (by rfl)).2 rfl
theorem SC.putO {ρ : Ren} {sl : List (Option Value)} {a : Act} (h : SC ρ sl a) (d : Option Tmp) {v u : Value} (hv : Rn ρ v u) : SC ρ (putO sl d v) (a.put d u) := by
  have := SC.put (S := ⟨sl, []⟩) h d hv
  cases d <;> exact this
theorem repL_len : ∀ (n : Nat) (z : List Value), (repL n z).length = n * z.length
  | 0, z => by simp [repL]
  | n + 1, z => by rw [repL, List.length_append, repL_len n z, Nat.add_mul]; omega
theorem repL_at : ∀ (n : Nat) (z : List Value) (i : Nat), 0 < z.length → i < n * z.length → (repL n z)[i]? = z[i % z.length]?
  | 0, z, i, _, h => by simp at h
  | n + 1, z, i, hz, h => by
    rw [repL, List.getElem?_append]
    split
    · rename_i hi; rw [Nat.mod_eq_of_lt hi]
    · rename_i hi
      rw [repL_at n z (i - z.length) hz (by rw [Nat.add_mul] at h; omega)]
      congr 1
      exact (Nat.mod_eq_sub_mod (by omega)).symm
theorem repL_range {z : List Value} (hz : 0 < z.length) (n : Nat) : (Array.range (n * z.length)).map ((⟨z⟩ : Array Value)[· % (⟨z⟩ : Array Value).size]!) = ⟨repL n z⟩ := by
  apply Array.ext'
  refine List.ext_getElem? fun i => ?_
  simp only [Array.toList_map, Array.toList_range, List.getElem?_map]
  rcases Nat.lt_or_ge i (n * z.length) with hi | hi
  · rw [repL_at n z i hz hi, List.getElem?_range hi]
    have hm : i % z.length < z.length := Nat.mod_lt _ hz
    simp [hm]
  · rw [List.getElem?_eq_none (by simpa using hi), List.getElem?_eq_none (by rw [repL_len]; exact hi)]
    rfl
theorem run_zero {P : Program} {t : TypeId} {inf : TypeInfo} {z : Value} (h1 : P.info? t = some inf) (h2 : inf.zero = some z) (w : World) : (zeroValue t).run P w = .ok z w := by
  simp [zeroValue, typeInfo, program, Sem.run, h1, h2]
theorem allB_mem {f : Value → Bool} {l : List Value} (h : allB f l = true) : ∀ v ∈ l, f v = true := fun v hv => by
  obtain ⟨i, hi⟩ := List.mem_iff_getElem?.1 hv
  exact allB_at h i v hi
theorem RL.scal {ρ : Ren} : ∀ {vs us : List Value}, RL ρ vs us → (∀ v ∈ vs, scal v = true) → ∀ u ∈ us, Go.Proofs.Ytpkckgdpdnkbeaa.scal u = true
  | [], us, h, _, u, hu => by rw [h.nil_inv] at hu; cases hu
  | v :: vs, us, h, hs, u, hu => by
    obtain ⟨x, us', rfl, h1, h2⟩ := h.cons_inv
    rcases List.mem_cons.1 hu with rfl | hu
    · exact h1.scal (hs v (List.mem_cons_self ..))
    · exact RL.scal h2 (fun y hy => hs y (List.mem_cons_of_mem _ hy)) u hu
theorem run_buildSlice {P : Program} {t e : TypeId} {len : Nat} {inf : TypeInfo} {z : Value} {qs : List (Nat × Value)} {cs : List Value} (hu : P.underlying t = some (.slice e)) (hi : P.info? e = some inf) (hz : inf.zero = some z)
    (hc2 : (cellsL z).length = inf.size) (hc3 : 0 < inf.size) (hc4 : len * inf.size ≤ 16777216) (hl : lfill (fun i => some (i * inf.size, inf.size)) (repL len (cellsL z)) qs = some cs) (w : World) :
    (Instr.buildSlice t len ⟨qs⟩).run P w = .ok (.slice (some ⟨w.heap.size, 0, none⟩) len len) (w.alloc (.cells ⟨cs⟩ e)) := by
  have hfe := fill_eq (fun i => some (i * inf.size, inf.size)) qs (repL len (cellsL z))
  rw [hl] at hfe
  have hrr := repL_range (z := cellsL z) (by omega) len
  rw [hc2] at hrr
  simp only [Instr.buildSlice, Sem.run_bind, run_underlying hu, run_sizeOf hi, Result.andThen_ok]
  rw [if_neg (by omega)]
  by_cases hl0 : len = 0
  · subst hl0
    simp only [Nat.zero_mul, if_true, Sem.run_bind, Sem.run_pure, Result.andThen_ok]
    have hr0 : (Array.map (fun x => (#[] : Array Value)[x % (#[] : Array Value).size]!) (Array.range 0)) = ⟨repL 0 (cellsL z)⟩ := by simp [repL]
    rw [hr0, hfe]
    rfl
  · rw [if_neg (by have : 0 < len * inf.size := Nat.mul_pos (by omega) hc3; omega)]
    simp only [Sem.run_bind, run_zero hi hz, Result.andThen_ok, Sem.run_pure, cellsL_eq]
    rw [hrr, hfe]
    rfl
theorem putAt_at : ∀ (vs cs : List Value) (off j : Nat), off + vs.length ≤ cs.length → (putAt cs off vs)[j]? = if off ≤ j ∧ j < off + vs.length then vs[j - off]? else cs[j]?
  | [], cs, off, j, _ => by
    rw [if_neg (by simp)]
    rfl
  | v :: vs, cs, off, j, h => by
    simp only [List.length_cons] at h
    rw [putAt, setL_eq, putAt_at vs _ _ _ (by simp; omega)]
    by_cases h1 : off + 1 ≤ j ∧ j < off + 1 + vs.length
    · rw [if_pos h1, if_pos (by simp; omega), show j - off = (j - (off + 1)) + 1 by omega, List.getElem?_cons_succ]
    · rw [if_neg h1]
      by_cases h2 : j = off
      · subst h2
        rw [if_pos (by simp), Nat.sub_self, List.getElem?_cons_zero, List.getElem?_set_self (by omega)]
      · rw [if_neg (by simp; omega), List.getElem?_set_ne (by omega)]
theorem flat_get (sh : List LK) (g : Nat → List Value) {n j : Nat} (hs : 0 < sh.length) (h : j < n * sh.length) : (flat sh n g)[j]? = (norm sh (g (j / sh.length)))[j % sh.length]? := by
  have hq : j % sh.length < sh.length := Nat.mod_lt _ hs
  have hk : j / sh.length < n := Nat.div_lt_of_lt_mul (by rw [Nat.mul_comm]; exact h)
  have hu : (norm sh (g (j / sh.length)))[j % sh.length]? = some ((norm sh (g (j / sh.length)))[j % sh.length]'(by rw [norm_len]; exact hq)) := List.getElem?_eq_getElem _
  rw [hu, ← flat_at sh g hu n hk, Nat.mul_comm, Nat.div_add_mod]
/-- a record's cells are others now -/
theorem flat_upd (sh : List LK) (g : Nat → List Value) {n r off : Nat} {vs : List Value} (hr : r < n) (ho : off + vs.length ≤ sh.length) (hf : fits sh (putAt (norm sh (g r)) off vs) = true) :
    putAt (flat sh n g) (r * sh.length + off) vs = flat sh n (updG g r (putAt (norm sh (g r)) off vs)) := by
  have hrn : (r + 1) * sh.length ≤ n * sh.length := Nat.mul_le_mul_right _ (by omega)
  rw [Nat.add_mul, Nat.one_mul] at hrn
  have hl : r * sh.length + off + vs.length ≤ (flat sh n g).length := by rw [flat_len]; omega
  refine List.ext_getElem? fun j => ?_
  rcases Nat.lt_or_ge j (n * sh.length) with hj | hj
  · have hs : 0 < sh.length := by
      rcases Nat.eq_zero_or_pos sh.length with e | e
      · rw [e] at hj; omega
      · exact e
    rw [putAt_at _ _ _ _ hl, flat_get sh _ hs hj, flat_get sh _ hs hj]
    have hdm := Nat.div_add_mod j sh.length
    have hmod := Nat.mod_lt j hs
    by_cases hk : j / sh.length = r
    · have hb : Nat.beq (j / sh.length) r = true := by rw [Nat.beq_eq]; exact hk
      unfold updG
      rw [hb, cond_true, fits_norm hf, putAt_at _ _ _ _ (by rw [norm_len]; exact ho), hk]
      rw [hk, Nat.mul_comm] at hdm
      by_cases hin : off ≤ j % sh.length ∧ j % sh.length < off + vs.length
      · rw [if_pos hin, if_pos (by omega)]
        congr 1
        omega
      · rw [if_neg hin, if_neg (by omega)]
    · have hb : Nat.beq (j / sh.length) r = false := by
        cases e : Nat.beq (j / sh.length) r with
        | false => rfl
        | true => rw [Nat.beq_eq] at e; exact absurd e hk
      unfold updG
      rw [hb, cond_false, if_neg]
      intro hin
      apply hk
      have h1 : j < (r + 1) * sh.length := by rw [Nat.add_mul]; omega
      have h2 : r * sh.length ≤ j := by omega
      have h3 : j / sh.length < r + 1 := Nat.div_lt_of_lt_mul (by rw [Nat.mul_comm]; exact h1)
      have h4 : r ≤ j / sh.length := (Nat.le_div_iff_mul_le hs).2 h2
      omega
  · rw [List.getElem?_eq_none (by rw [putAt_len, flat_len]; exact hj), List.getElem?_eq_none (by rw [flat_len]; exact hj)]
/-- a store into a record of a list of ours -/
theorem row_store {P : Program} {w : World} {base e b n q r off : Nat} {sh : List LK} {g : Nat → List Value} {vs : List Value} (h : w.ownsRow base e sh.length (.slice (some ⟨b, 0, none⟩) n q) n (flat sh n g)) (hs : ∀ v ∈ vs, scal v = true) (hr : r < n) (ho : off + vs.length ≤ sh.length) (hf : fits sh (putAt (norm sh (g r)) off vs) = true) :
    ∃ w', (storeCells ⟨b, r * sh.length + off, none⟩ vs).run P w = .ok () w' ∧ Onl b w w' ∧ w'.ownsRow base e sh.length (.slice (some ⟨b, 0, none⟩) n q) n (flat sh n (updG g r (putAt (norm sh (g r)) off vs))) := by
  rcases h.2 with ⟨e1, _⟩ | ⟨b', cap, cur, e1, hb, hg, hnc, hcm, hcs, ht⟩
  · cases e1
  · cases e1
    have hrn : (r + 1) * sh.length ≤ n * sh.length := Nat.mul_le_mul_right _ (by omega)
    have hnq : n * sh.length ≤ q * sh.length := Nat.mul_le_mul_right _ hnc
    rw [Nat.add_mul, Nat.one_mul] at hrn
    have hcl : cur.toList.length = q * sh.length := by rw [Array.length_toList]; exact hcs
    obtain ⟨w', r1, r2, r3⟩ := run_storeCells P b (r * sh.length + off) e vs cur.toList 0 w hs (by simpa using hg) (by omega)
    refine ⟨w', r1, r2, flat_len _ _ _, .inr ⟨b, q, _, rfl, hb, r3, hnc, hcm, ?_, ?_⟩⟩
    · simp only [List.size_toArray, putAt_len]
      exact hcl
    · rw [← flat_upd sh g hr ho hf, ← ht, Nat.add_zero]
      refine List.ext_getElem? fun j => ?_
      have hl1 : r * sh.length + off + vs.length ≤ cur.toList.length := by omega
      have hl2 : r * sh.length + off + vs.length ≤ (cur.toList.take (n * sh.length)).length := by rw [List.length_take]; omega
      rw [List.getElem?_take, putAt_at _ _ _ _ hl1, putAt_at _ _ _ _ hl2, List.getElem?_take]
      split
      · rfl
      · rw [if_neg (by omega)]
theorem repL_add (z : List Value) : ∀ (n m : Nat), repL (n + m) z = repL n z ++ repL m z
  | 0, m => by simp [repL]
  | n + 1, m => by rw [show n + 1 + m = (n + m) + 1 by omega, repL, repL_add z n m, repL, List.append_assoc]
theorem flat_repL {sh : List LK} {z : List Value} (h : norm sh z = z) : ∀ n, flat sh n (fun _ => z) = repL n z
  | 0 => rfl
  | n + 1 => by rw [flat_succ, flat_repL h n, h, repL_add z n 1]; simp [repL]
theorem chunk_len (cs : List Value) (sz : Nat) : ∀ n off, (chunk cs off sz n).length = n
  | 0, _ => rfl
  | n + 1, off => by simp [chunk, chunk_len cs sz n]
theorem flat_chunk {sh : List LK} {cs : List Value} {n : Nat} (hl : cs.length = n * sh.length) (hf : fitsAll sh (chunk cs 0 sh.length n) = true) : flat sh n (fun j => (nthL (chunk cs 0 sh.length n) j).getD []) = cs := by
  refine List.ext_getElem? fun j => ?_
  rcases Nat.lt_or_ge j (n * sh.length) with hj | hj
  · have hs : 0 < sh.length := by
      rcases Nat.eq_zero_or_pos sh.length with e | e
      · rw [e] at hj; omega
      · exact e
    have hk : j / sh.length < n := Nat.div_lt_of_lt_mul (by rw [Nat.mul_comm]; exact hj)
    have hat := chunk_at cs sh.length n 0 _ hk
    rw [flat_get sh _ hs hj, nthL_eq, hat]
    have hn := fitsAll_at hf hat
    simp only [Option.getD_some]
    rw [hn, List.getElem?_take, if_pos (Nat.mod_lt _ hs), List.getElem?_drop, Nat.zero_add, Nat.mul_comm, Nat.div_add_mod]
  · rw [List.getElem?_eq_none (by rw [flat_len]; exact hj), List.getElem?_eq_none (by omega)]
theorem fitsAll_clean {sh : List LK} {cs : List Value} {n : Nat} (hl : cs.length = n * sh.length) (hf : fitsAll sh (chunk cs 0 sh.length n) = true) : allB cleanS cs = true := by
  have h := flat_chunk hl hf
  have key : ∀ (sh : List LK) (g : Nat → List Value) n, allB cleanS (flat sh n g) = true := fun sh g n => by
    have app : ∀ (a b : List Value), allB cleanS a = true → allB cleanS b = true → allB cleanS (a ++ b) = true := fun a => by
      induction a with
      | nil => intro b _ hb; exact hb
      | cons x a ih => intro b ha hb; simp only [allB, Bool.and_eq_true, List.cons_append] at ha ⊢; exact ⟨ha.1, ih b ha.2 hb⟩
    induction n with
    | zero => rfl
    | succ n ih => rw [flat_succ]; exact app _ _ ih (norm_clean _ _)
  rw [← h]
  exact key _ _ _
/-- what an operation's proof has to bring -/
def RGoal (P : Program) (o : Oper) (a : Act) (w : World) (base : Nat) (w0 : World) (ρ : Ren) (H : List AObj) (id m : Nat) (Φ : Lf) (k : Value × Eff → Out) : Prop :=
  ∃ v e, (k (v, e)).sat Φ ∧ ∀ (next : Act → World → Prop) (Q : Exit → Act → World → Prop), (∀ u ρ' w', Rn ρ' v u → RLe ρ ρ' → (∀ i, (∀ t, t < m → i ≠ id + t) → ρ' i = ρ i) → HC base w0 ρ' (effH H e) w' → next (a.put o.dst u) w') → o.wp P a w next Q
section
variable {P : Program} {o : Oper} {Sr : ASt} {id m : Nat} {k : Value × Eff → Out} {Φ : Lf} {base : Nat} {w0 w : World} {ρ : Ren} {H : List AObj} {a : Act}
theorem upd_else {l : Loc} (hm : 0 < m) : ∀ i, (∀ t, t < m → i ≠ id + t) → upd ρ id l i = ρ i := fun i hi => if_neg (by have := hi 0 hm; omega)
theorem absent_find {n : Int} : ∀ (l : List MapEntry) (j : Nat), absent n l = true → Instr.findNow (.int .i64) (.int .i64 n) l j = some none
  | [], _, _ => rfl
  | e :: l, j, h => by
    simp only [absent, Bool.and_eq_true] at h
    obtain ⟨h1, h2⟩ := h
    split at h1
    · rename_i m hk
      have hs : Instr.sameNow (.int .i64) (.int .i64 n) e.key = some (n == m) := by rw [hk]; simp [Instr.sameNow]
      have e1 : (n == m) = false := by simpa using h1
      show (match Instr.sameNow (.int .i64) (.int .i64 n) e.key with | some true => some (some (j, e.val)) | some false => Instr.findNow (.int .i64) (.int .i64 n) l (j + 1) | none => none) = _
      rw [hs, e1]
      exact absent_find l (j + 1) h2
    · cases h1
theorem allE_snoc {e : MapEntry} : ∀ {l : List MapEntry}, allE l = true → entC e = true → allE (l ++ [e]) = true
  | [], _, h => by simp [allE, h]
  | x :: l, h, he => by
    simp only [allE, Bool.and_eq_true] at h
    simp only [List.cons_append, allE, Bool.and_eq_true]
    exact ⟨h.1, allE_snoc h.2 he⟩
theorem xinsert_ok {t : TypeId} {m' x y : Operand} (ho : o.op = .insert t m' x y) (h : (xinsert P t Sr.heap (Sr.ev m') (Sr.ev x) (Sr.ev y) k).sat Φ) (hs : SC ρ Sr.slots a) (hc : HC base w0 ρ H w) (hm : ∀ (i : Nat) o, Sr.heap[i]? = some o → o = .gone ∨ H[i]? = some o) : RGoal P o a w base w0 ρ H id m Φ k := by
  unfold xinsert at h
  split at h
  · rename_i kt et hu
    split at h
    · rename_i huk
      split at h
      · rename_i i hx
        split at h
        · rename_i n hn
          split at h
          · rename_i v hv
            split at h
            · rename_i hcl
              split at h
              · rename_i es c hi
                split at h
                · rename_i hab
                  rw [nthL_eq] at hi
                  have hiH : H[i]? = some (.mp es c) := (hm i _ hi).resolve_left (fun e => by cases e)
                  obtain ⟨b, g1, g2, g3, g4⟩ := hc.obj i _ hiH
                  have h1 := hs.ev hx
                  have h2 := (clean_Rn (by rfl)).1 (hs.ev hn)
                  have h3 := (clean_Rn hcl).1 (hs.ev hv)
                  generalize he1 : a.eval m' = ux at h1
                  cases h1 with
                  | map hmm =>
                    rename_i b'
                    rw [hmm] at g1
                    cases g1
                    have hlt := hc.lt i b 0 (0, 0) hmm
                    have hkey : MapKept.IsKey (.int .i64) (.int .i64 n) := rfl
                    have hrun : (execOp a.eval o).run P w = .ok .skip { w with heap := w.heap.setIfInBounds b (.map ⟨es ++ [⟨.int .i64 n, v, c⟩]⟩ (c + 1)) } := by
                      unfold execOp
                      rw [ho]
                      simp only [he1, h2, h3]
                      simp [Instr.mapUpdate, run_underlying hu, MapKept.run_getObj_map g4, MapKept.run_checkKey huk hkey, MapKept.run_findKey huk (absent_find es 0 hab), MapKept.run_setObj_map _ g4, Result.andThen]
                    have hset := MapKept.heap_set (o' := Obj.map ⟨es ++ [⟨.int .i64 n, v, c⟩]⟩ (c + 1)) g4
                    refine ⟨_, _, h, fun next Q hn => ?_⟩
                    unfold Oper.wp
                    rw [hrun]
                    refine hn _ ρ _ (undef_Rn ρ) (RLe.refl ρ) (fun _ _ => rfl) ?_
                    simp only [effH, setL_eq]
                    exact hc.setO hiH rfl hmm g2 ⟨b, hmm, g2, allE_snoc g3 (by simp [entC, hcl]; rfl), hset.1⟩ ⟨rfl, rfl, rfl, by simp, fun k hk => hset.2 k hk⟩
                · exact h.elim
              · exact h.elim
            · exact h.elim
          · exact h.elim
        · exact h.elim
      · exact h.elim
    · exact h.elim
  · exact h.elim
theorem xstore_ok {t : TypeId} {x y : Operand} (ho : o.op = .store t x y) (h : (xstore P t Sr.heap (Sr.ev x) (Sr.ev y) k).sat Φ) (hs : SC ρ Sr.slots a) (hc : HC base w0 ρ H w) (hm : ∀ (i : Nat) o, Sr.heap[i]? = some o → o = .gone ∨ H[i]? = some o) : RGoal P o a w base w0 ρ H id m Φ k := by
  unfold xstore at h
  simp only [headsV_eq] at h
  split at h
  · rename_i i off sp hx
    split at h
    · rename_i v hy
      split at h
      · rename_i inf hinf
        split at h
        · rename_i hch
          simp only [Bool.and_eq_true, Nat.beq_eq] at hch
          obtain ⟨hc1, hc3⟩ := hch
          have h1 := hs.ev hx
          have h2 := hs.ev hy
          generalize he1 : a.eval x = ux at h1
          generalize he2 : a.eval y = uy at h2
          have hcl := h2.cellsL
          have hrun : ∀ b off' w', ux = .pointer (some ⟨b, off', none⟩) → (storeCells ⟨b, off', none⟩ (cellsL uy)).run P w = .ok () w' → (execOp a.eval o).run P w = .ok .skip w' := fun b off' w' e r1 => by
            unfold execOp
            rw [ho]
            simp only [Instr.storeAt, he1, he2, e, Instr.sureAddr, Sem.run_bind, Sem.run_pure, Result.andThen_ok, storeVar, run_sizeOf hinf, cellsL_eq]
            rw [if_neg (by simp [← hcl.1, hc1])]
            rw [r1]
            rfl
          have fin : ∀ b w' (i : Nat) (oo o' : AObj) (s : Nat) (z : Nat × Nat), (execOp a.eval o).run P w = .ok .skip w' → H[i]? = some oo → oo.own = true → ρ i = some (some (b, s, z)) → base ≤ b → OC base ρ w' i o' → Onl b w w' → (k (undef, [(i, o')])).sat Φ → RGoal P o a w base w0 ρ H id m Φ k := fun b w' i oo o' s z hrun hiH hown hmm hb hoc hol h => by
            refine ⟨_, _, h, fun next Q hn => ?_⟩
            unfold Oper.wp
            rw [hrun]
            refine hn _ ρ w' (undef_Rn ρ) (RLe.refl ρ) (fun _ _ => rfl) ?_
            simp only [effH, setL_eq]
            exact hc.setO hiH hown hmm hb hoc hol
          split at h
          · rename_i T cs hi
            rw [nthL_eq] at hi
            have hiH : H[i]? = some (.cells T cs) := (hm i _ hi).resolve_left (fun e => by cases e)
            split at h
            · split at h
              · rename_i hle
                rw [Nat.ble_eq] at hle
                obtain ⟨b, s, z, hmm, rfl⟩ := h1.ptrA
                obtain ⟨b', us, g1, g2, g3, g4⟩ := hc.obj i _ hiH
                rw [hmm] at g1
                cases g1
                obtain ⟨w', r1, r2, r3⟩ := run_storeCells P b off T (cellsL uy) us 0 w (hcl.scal (allB_mem hc3)) g4 (by rw [← hcl.1, ← g3.1]; omega)
                refine fin b w' i _ (.cells T (putAt cs off (cellsL v))) 0 _ (hrun b _ w' rfl (by simpa [placeOf] using r1)) hiH rfl hmm g2 ⟨b, _, hmm, g2, RL.putAt off hcl g3, by simpa using r3⟩ r2 h
              · exact h.elim
            · exact h.elim
          · rename_i e sh n g hi
            rw [nthL_eq] at hi
            have hiH : H[i]? = some (.row e sh n g) := (hm i _ hi).resolve_left (fun e => by cases e)
            split at h
            · rename_i r
              split at h
              · rename_i hle
                rw [Bool.and_eq_true, Nat.ble_eq] at hle
                obtain ⟨hle, hfit⟩ := hle
                obtain ⟨hr, h⟩ := h
                obtain ⟨b, s, z, hmm, rfl⟩ := h1.ptrA
                obtain ⟨l0, g1, g0, g2⟩ := hc.obj i _ hiH
                rw [hmm] at g1
                cases g1
                obtain ⟨rfl, hz⟩ := g0 b s z rfl
                obtain ⟨z1, z2⟩ := z
                simp only at hz
                subst hz
                have hcy : cellsL uy = cellsL v := by
                  have hput : ∀ j v', (cellsL v)[j]? = some v' → (putAt (norm sh (g r)) off (cellsL v))[off + j]? = some v' := fun j v' hj => by
                    have hjl := (List.getElem?_eq_some_iff.1 hj).1
                    rw [putAt_at _ _ _ _ (by rw [norm_len]; exact hle), if_pos (by omega), show off + j - off = j by omega, hj]
                  have hcle : allB cleanS (cellsL v) = true := by
                    have : ∀ (l : List Value), (∀ v' ∈ l, cleanS v' = true) → allB cleanS l = true := fun l => by
                      induction l with
                      | nil => intro _; rfl
                      | cons x l ih => intro hx; simp only [allB, Bool.and_eq_true]; exact ⟨hx x (List.mem_cons_self ..), ih fun v' hv => hx v' (List.mem_cons_of_mem _ hv)⟩
                    refine this _ fun v' hv => ?_
                    obtain ⟨j, hj⟩ := List.mem_iff_getElem?.1 hv
                    have h1 := hput j v' hj
                    rw [← fits_norm hfit] at h1
                    exact allB_at (norm_clean sh _) _ _ h1
                  exact ((RL_clean (fun _ _ h => cleanS_Rn h) hcle).1 hcl)
                obtain ⟨w', r1, r2, r3⟩ := row_store (P := P) (r := r) (off := off) g2 (by rw [← hcy]; exact hcl.scal (allB_mem hc3)) hr hle hfit
                refine fin b w' i _ (.row e sh n (updG g r (putAt (norm sh (g r)) off (cellsL v)))) 0 _ (hrun b (r * sh.length + off) w' (by simp [placeOf]) (by rw [hcy]; exact r1)) hiH rfl hmm ?_ ⟨_, hmm, fun b' s' z' e => (by cases e; exact ⟨rfl, rfl⟩), r3⟩ r2 h
                exact (g2.lt b rfl).1
              · exact h.elim
            · exact h.elim
          · exact h.elim
        · exact h.elim
      · exact h.elim
    · exact h.elim
  · exact h.elim
/-- a new list of ours -/
theorem own_new {u : Value} {w' : World} {e n : Nat} {sh : List LK} {g : Nat → List Value} (hc : HC base w0 ρ H w) (hid : id < H.length) (hno : ρ id = none) (hown : w'.ownsRow base e sh.length u n (flat sh n g)) (hg : w.grownBy w' none) (hub : u.ownBlock = none ∨ u.ownBlock = some w.heap.size) :
    ∃ l, HC base w0 (upd ρ id l) (H.set id (.row e sh n g)) w' ∧ RLe ρ (upd ρ id l) ∧ Rn (upd ρ id l) (.slice (some ⟨id, 0, some 0⟩) n n) u := by
  obtain ⟨l, e1, e2, e3⟩ := own_fin hown
  obtain ⟨q1, q2⟩ := hc.growAt (H1 := H) (row := none) rfl hid hno (fun j o hj => .inr ⟨hj, fun b s z _ e => by cases e⟩) (fun b e => by cases e) hg e1 fun b s z e => by
    obtain ⟨f1, f2, f3, f4⟩ := e2 b s z e
    refine ⟨f1, f2, f3, .inr ?_⟩
    rw [f4] at hub
    rcases hub with hub | hub
    · cases hub
    · cases hub; exact Nat.le_refl _
  exact ⟨l, q1, q2, e3 _ _ (if_pos rfl)⟩
theorem xbuildS_ok {t : TypeId} {len : Nat} {ps : List (Nat × Operand)} (ho : o.op = .buildSlice t len ⟨ps⟩) (h : (xbuildS P t len (evP Sr ps) id k).sat Φ) (hs : SC ρ Sr.slots a) (hc : HC base w0 ρ H w) (hm : 0 < m) (hid : id < H.length) (hno : ρ id = none) : RGoal P o a w base w0 ρ H id m Φ k := by
  unfold xbuildS at h
  split at h
  · rename_i e hu
    split at h
    · rename_i inf hi
      split at h
      · rename_i z hz
        split at h
        · rename_i hch
          simp only [Bool.and_eq_true, Nat.beq_eq, Nat.ble_eq, Nat.blt_eq] at hch
          obtain ⟨⟨⟨hc1, hc2⟩, hc3⟩, hc4⟩ := hch
          split at h
          · rename_i qs hq
            split at h
            · rename_i cs hcs
              have hP := evP_PL hs hq
              have hzz : RL ρ (cellsL z) (cellsL z) := (selfB_Rn hc1).cellsL
              have hrep : ∀ n, RL ρ (repL n (cellsL z)) (repL n (cellsL z)) := fun n => by
                induction n with
                | zero => exact .nil ρ
                | succ n ih => exact hzz.append ih
              obtain ⟨o2, h1, h2⟩ := lfill_RL hP (hrep len) hcs
              have hrun : (execOp a.eval o).run P w = .ok (.value (.slice (some ⟨w.heap.size, 0, none⟩) len len)) (w.alloc (.cells ⟨o2⟩ e)) := by
                unfold execOp
                rw [ho]
                simp only [List.map_toArray, Sem.run_bind, run_buildSlice hu hi hz hc2 hc3 hc4 h1 w]
                rfl
              split at h
              · rename_i sh hl
                unfold litO at hl
                split at hl
                · rename_i sh' hk
                  split at hl
                  · rename_i hb
                    cases hl
                    simp only [Bool.and_eq_true, Nat.beq_eq, Nat.ble_eq] at hb
                    obtain ⟨⟨hb1, hb2⟩, hb3⟩ := hb
                    have hlen : cs.length = len * sh.length := by
                      have hl1 : ∀ (ps : List (Nat × Value)) (c d : List Value) (pl : Nat → Option (Nat × Nat)), lfill pl c ps = some d → d.length = c.length := fun ps => by
                        induction ps with
                        | nil => intro c d pl e; cases e; rfl
                        | cons p ps ih =>
                          intro c d pl e
                          obtain ⟨i, v⟩ := p
                          unfold lfill at e
                          split at e
                          · cases e
                          · rename_i off size hpl
                            cases hb : (Nat.beq (cellsL v).length size && Nat.ble (off + (cellsL v).length) c.length) with
                            | false => rw [hb] at e; cases e
                            | true => rw [hb] at e; rw [ih _ _ _ e, putAt_len]
                      rw [hl1 _ _ _ _ hcs, repL_len, hc2, hb1]
                    rw [← hb1] at hb3
                    have hcl := fitsAll_clean hlen hb3
                    have ho2 : o2 = cs := (RL_clean (fun _ _ h => cleanS_Rn h) hcl).1 h2
                    subst ho2
                    rw [← hb1] at h
                    refine ⟨_, _, h, fun next Q hn => ?_⟩
                    have hown : (w.alloc (.cells ⟨o2⟩ e)).ownsRow base e sh.length (.slice (some ⟨w.heap.size, 0, none⟩) len len) len (flat sh len fun j => (nthL (chunk o2 0 sh.length len) j).getD []) := by
                      rw [flat_chunk hlen hb3]
                      exact World.ownsRow_lit w ⟨o2⟩ len hc.floor (by simp only [maxLen]; omega) (by simpa using hlen)
                    obtain ⟨l, q1, q2, q3⟩ := own_new (id := id) hc hid hno hown (World.grownBy_alloc w _ none) (.inr rfl)
                    unfold Oper.wp
                    rw [hrun]
                    exact hn _ _ _ q3 q2 (upd_else hm) (by simpa [effH, setL_eq] using q1)
                  · cases hl
                · cases hl
              · obtain ⟨n1, n2⟩ := hc.newAt (T := e) h2 hid hno
                refine ⟨_, _, h, fun next Q hn => ?_⟩
                unfold Oper.wp
                rw [hrun]
                refine hn _ _ _ ?_ n2 (upd_else hm) (by simpa [effH, setL_eq] using n1)
                exact Rn.slice (ρ := upd ρ id (some (w.heap.size, 0, 0, 0))) (i := id) (o := 0) (b := w.heap.size) (s := 0) (z := (0, 0)) len len (if_pos rfl) (Nat.le_refl _)
            · exact h.elim
          · exact h.elim
        · exact h.elim
      · exact h.elim
    · exact h.elim
  · exact h.elim
theorem xmake_ok {t : TypeId} {l c : Operand} (ho : o.op = .makeSlice t l c) (h : (xmake P t (Sr.ev l) (Sr.ev c) id k).sat Φ) (hs : SC ρ Sr.slots a) (hc : HC base w0 ρ H w) (hm : 0 < m) (hid : id < H.length) (hno : ρ id = none) : RGoal P o a w base w0 ρ H id m Φ k := by
  unfold xmake at h
  split at h
  · rename_i e hu
    split at h
    · rename_i inf hi
      split at h
      · rename_i z hz
        split at h
        · rename_i sh hk
          split at h
          · rename_i hch
            simp only [Bool.and_eq_true, Nat.beq_eq, Nat.blt_eq] at hch
            obtain ⟨⟨hc1, hc2⟩, hc3⟩ := hch
            split at h
            · rename_i l0 hl
              split at h
              · rename_i c0 hcc
                obtain ⟨⟨h0, hlc, hby, h63⟩, h⟩ := h
                have e1 := (clean_Rn (by rfl)).1 (hs.ev hl)
                have e2 := (clean_Rn (by rfl)).1 (hs.ev hcc)
                have hr := run_make (P := P) w t e inf z hu hi hz .i64 .i64 l0 c0 h0 hlc hby h63
                refine ⟨_, _, h, fun next Q hn => ?_⟩
                have hrun : (execOp a.eval o).run P w = .ok (.value (.slice (some ⟨w.heap.size, 0, none⟩) l0.toNat c0.toNat)) (w.alloc (.cells (madeCells z.cells (c0.toNat * inf.size)) e)) := by
                  unfold execOp
                  rw [ho]
                  simp only [e1, e2, Sem.run_bind, hr]
                  rfl
                have hzl : (cellsL z).length = sh.length := by have := norm_len sh (cellsL z); rw [fits_norm hc2] at this; exact this
                have hmade : madeCells z.cells (c0.toNat * inf.size) = ⟨repL c0.toNat (cellsL z)⟩ := by
                  have := repL_range (z := cellsL z) (by omega) c0.toNat
                  rw [hzl, ← hc1] at this
                  unfold madeCells
                  rw [cellsL_eq]
                  exact this
                have hown : (w.alloc (.cells (madeCells z.cells (c0.toNat * inf.size)) e)).ownsRow base e sh.length (.slice (some ⟨w.heap.size, 0, none⟩) l0.toNat c0.toNat) l0.toNat (flat sh l0.toNat fun _ => cellsL z) := by
                  refine ⟨flat_len _ _ _, .inr ⟨w.heap.size, c0.toNat, _, rfl, hc.floor, heap_alloc_new w _, by omega, by simp only [maxLen]; omega, by rw [size_madeCells, hc1], ?_⟩⟩
                  rw [hmade, flat_repL (fits_norm hc2)]
                  obtain ⟨d, hd⟩ : ∃ d, c0.toNat = l0.toNat + d := ⟨c0.toNat - l0.toNat, by omega⟩
                  rw [hd, repL_add]
                  show (repL l0.toNat (cellsL z) ++ repL d (cellsL z)).take _ = _
                  rw [← hzl, ← repL_len, List.take_left]
                obtain ⟨l', q1, q2, q3⟩ := own_new (id := id) hc hid hno hown (World.grownBy_alloc w _ none) (.inr rfl)
                unfold Oper.wp
                rw [hrun]
                exact hn _ _ _ q3 q2 (upd_else hm) (by simpa [effH, setL_eq] using q1)
              · exact h.elim
            · exact h.elim
          · exact h.elim
        · exact h.elim
      · exact h.elim
    · exact h.elim
  · exact h.elim
end
end Go.Proofs.Ytpkckgdpdnkbeaa
