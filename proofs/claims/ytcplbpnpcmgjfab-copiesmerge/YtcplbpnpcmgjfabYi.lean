/- A symbolic run of Go code: it is sound. -/
import Derived.Test.YtcplbpnpcmgjfabYh
namespace Go.Proofs.Ytcplbpnpcmgjfab
open Go.RowKit
theorem SC.putH {ρ : Ren} {sl : List (Option Value)} {a : Act} (h : SC ρ sl a) (H : List AObj) (d : Option Tmp) {v u : Value} (hv : Rn ρ v u) : SC ρ (ASt.put ⟨sl, H⟩ d v).slots (a.put d u) := SC.put (S := ⟨sl, H⟩) h d hv
section
variable {P : Program} {o : Oper} {Φ : Lf} {k : ASt → Out} {ρ : Ren} {a : Act} {w w0 : World} {base : Nat} {S : ASt} {next : Act → World → Prop} {Q : Exit → Act → World → Prop}
theorem malloc_ok {t : TypeId} (ho : o.op = .alloc t) (h : (malloc P t o.dst S k).sat Φ) (hs : SC ρ S.slots a) (hc : HC base w0 ρ S.heap w)
    (hn : ∀ ρ' S' a' w', (k S').sat Φ → SC ρ' S'.slots a' → HC base w0 ρ' S'.heap w' → RLe ρ ρ' → next a' w') : o.wp P a w next Q := by
  unfold malloc at h
  split at h
  · rename_i inf hi
    split at h
    · rename_i z hz
      split at h
      · rename_i hcl
        have hr : RL ρ (cellsL z) (cellsL z) := (selfB_Rn hcl).cellsL
        obtain ⟨h1, h2⟩ := hc.new (T := t) hr
        unfold Oper.wp
        have hrun : (execOp a.eval o).run P w = .ok (.value (.pointer (some ⟨w.heap.size, 0, none⟩))) (w.alloc (.cells ⟨cellsL z⟩ t)) := by
          unfold execOp
          rw [ho]
          simp only [Instr.alloc, Sem.run_bind, run_zero hi hz, Result.andThen_ok, newVar, newRow, newObj, cellsL_eq]
          rfl
        rw [hrun]
        refine hn _ _ _ _ h ?_ (by rw [ASt.put_heap]; exact h1) h2
        refine SC.putH (hs.mono h2) _ o.dst ?_
        have hp := Rn.ptr (ρ := upd ρ S.heap.length (some (w.heap.size, 0, 0))) (i := S.heap.length) (o := 0) (b := w.heap.size) (s := 0) (z := 0) (if_pos rfl)
        exact hp
      · exact h.elim
    · exact h.elim
  · exact h.elim
theorem mbox_ok {t : TypeId} {x : Operand} (ho : o.op = .box t x) (h : (mbox t (S.ev x) o.dst S k).sat Φ) (hs : SC ρ S.slots a) (hc : HC base w0 ρ S.heap w)
    (hn : ∀ ρ' S' a' w', (k S').sat Φ → SC ρ' S'.slots a' → HC base w0 ρ' S'.heap w' → RLe ρ ρ' → next a' w') : o.wp P a w next Q := by
  unfold mbox at h
  split at h
  · rename_i v hx
    have hr := (hs.ev hx).cellsL
    obtain ⟨h1, h2⟩ := hc.new (T := t) hr
    unfold Oper.wp
    have hrun : (execOp a.eval o).run P w = .ok (.value (.pointer (some ⟨w.heap.size, 0, none⟩))) (w.alloc (.cells ⟨cellsL (a.eval x)⟩ t)) := by
      unfold execOp
      rw [ho]
      simp only [Instr.box, Sem.run_bind, newVar, newRow, newObj, cellsL_eq]
      rfl
    rw [hrun]
    refine hn _ _ _ _ h ?_ (by rw [ASt.put_heap]; exact h1) h2
    refine SC.putH (hs.mono h2) _ o.dst ?_
    have hp := Rn.ptr (ρ := upd ρ S.heap.length (some (w.heap.size, 0, 0))) (i := S.heap.length) (o := 0) (b := w.heap.size) (s := 0) (z := 0) (if_pos rfl)
    exact hp
  · exact h.elim
theorem mstore_ok {t : TypeId} {x y : Operand} (ho : o.op = .store t x y) (h : (mstore P t (S.ev x) (S.ev y) o.dst S k).sat Φ) (hs : SC ρ S.slots a) (hc : HC base w0 ρ S.heap w)
    (hn : ∀ ρ' S' a' w', (k S').sat Φ → SC ρ' S'.slots a' → HC base w0 ρ' S'.heap w' → RLe ρ ρ' → next a' w') : o.wp P a w next Q := by
  unfold mstore at h
  split at h
  · rename_i i off hx
    split at h
    · rename_i T cs hi
      rw [nthL_eq] at hi
      split at h
      · rename_i v hy
        split at h
        · rename_i inf hinf
          split at h
          · rename_i hch
            simp only [Bool.and_eq_true, Nat.beq_eq, Nat.ble_eq] at hch
            obtain ⟨⟨hc1, hc2⟩, hc3⟩ := hch
            have h1 := hs.ev hx
            have h2 := hs.ev hy
            generalize he1 : a.eval x = ux at h1
            generalize he2 : a.eval y = uy at h2
            cases h1 with
            | ptr hm =>
              rename_i b s z
              obtain ⟨b', us, g1, g2, g3, g4⟩ := hc.obj i _ hi
              rw [hm] at g1
              cases g1
              have hcl := h2.cellsL
              obtain ⟨w', r1, r2, r3⟩ := run_storeCells P b off T (cellsL uy) us 0 w (hcl.scal (allB_mem hc3)) g4 (by rw [← hcl.1, ← g3.1]; omega)
              unfold Oper.wp
              have hrun : (execOp a.eval o).run P w = .ok .skip w' := by
                unfold execOp
                rw [ho]
                simp only [Instr.storeAt, he1, he2, Instr.sureAddr, Sem.run_bind, Sem.run_pure, Result.andThen_ok, storeVar, run_sizeOf hinf, cellsL_eq, Nat.zero_add]
                rw [if_neg (by simp [← hcl.1, hc1])]
                rw [r1]
                rfl
              rw [hrun]
              refine hn ρ _ _ w' h (SC.putH hs _ o.dst (undef_Rn ρ)) ?_ (RLe.refl ρ)
              rw [ASt.put_heap, setL_eq]
              exact hc.set hi hm (RL.putAt off hcl g3) r2 (by simpa using r3)
          · exact h.elim
        · exact h.elim
      · exact h.elim
    · exact h.elim
  · exact h.elim
theorem mbuildSlice_ok {t : TypeId} {len : Nat} {ps : List (Nat × Operand)} (ho : o.op = .buildSlice t len ⟨ps⟩) (h : (mbuildSlice P t len (evP S ps) o.dst S k).sat Φ) (hs : SC ρ S.slots a) (hc : HC base w0 ρ S.heap w)
    (hn : ∀ ρ' S' a' w', (k S').sat Φ → SC ρ' S'.slots a' → HC base w0 ρ' S'.heap w' → RLe ρ ρ' → next a' w') : o.wp P a w next Q := by
  unfold mbuildSlice at h
  split at h
  · rename_i e hu
    split at h
    · rename_i inf hi
      split at h
      · rename_i z hz
        split at h
        · rename_i hch
          simp only [Bool.and_eq_true, Nat.beq_eq, Nat.ble_eq, Nat.blt_eq] at hch
          obtain ⟨⟨⟨hc1, hc2⟩, hc3⟩, hc4⟩ := hch
          split at h
          · rename_i qs hq
            split at h
            · rename_i cs hcs
              have hP := evP_PL hs hq
              have hzz : RL ρ (cellsL z) (cellsL z) := (selfB_Rn hc1).cellsL
              have hrep : ∀ n, RL ρ (repL n (cellsL z)) (repL n (cellsL z)) := fun n => by
                induction n with
                | zero => exact .nil ρ
                | succ n ih => exact hzz.append ih
              obtain ⟨o2, h1, h2⟩ := lfill_RL hP (hrep len) hcs
              obtain ⟨n1, n2⟩ := hc.new (T := e) h2
              unfold Oper.wp
              have hrun : (execOp a.eval o).run P w = .ok (.value (.slice (some ⟨w.heap.size, 0, none⟩) len len)) (w.alloc (.cells ⟨o2⟩ e)) := by
                unfold execOp
                rw [ho]
                have hfe := fill_eq (fun i => some (i * inf.size, inf.size)) (ps.map fun p => (p.1, a.eval p.2)) (repL len (cellsL z))
                rw [h1] at hfe
                have hrr := repL_range (z := cellsL z) (by omega) len
                rw [hc2] at hrr
                simp only [Instr.buildSlice, Sem.run_bind, run_underlying hu, run_sizeOf hi, Result.andThen_ok]
                rw [if_neg (by omega)]
                by_cases hl : len = 0
                · subst hl
                  simp only [Nat.zero_mul, if_true, Sem.run_bind, Sem.run_pure, Result.andThen_ok, List.map_toArray]
                  have hr0 : (Array.map (fun x => (#[] : Array Value)[x % (#[] : Array Value).size]!) (Array.range 0)) = ⟨repL 0 (cellsL z)⟩ := by simp [repL]
                  rw [hr0, hfe]
                  rfl
                · rw [if_neg (by have : 0 < len * inf.size := Nat.mul_pos (by omega) hc3; omega)]
                  simp only [Sem.run_bind, run_zero hi hz, Result.andThen_ok, Sem.run_pure, cellsL_eq, List.map_toArray]
                  rw [hrr, hfe]
                  rfl
              rw [hrun]
              refine hn _ _ _ _ h ?_ (by rw [ASt.put_heap]; exact n1) n2
              refine SC.putH (hs.mono n2) _ o.dst ?_
              exact Rn.slice (ρ := upd ρ S.heap.length (some (w.heap.size, 0, 0))) (i := S.heap.length) (o := 0) (b := w.heap.size) (s := 0) (z := 0) len len (if_pos rfl) (Nat.le_refl _)
            · exact h.elim
          · exact h.elim
        · exact h.elim
      · exact h.elim
    · exact h.elim
  · exact h.elim
theorem flat_lies {w : World} {b s m : Nat} {sh : List LK} {f : Nat → List Value} : (∀ k, k < m → Lies w b (s + k * sh.length) (norm sh (f k))) → ∀ (j : Nat) v, (flat sh m f)[j]? = some v → w.cell? ⟨b, s + j, none⟩ = some v := by
  induction m with
  | zero => intro _ j v hv; simp [flat] at hv
  | succ m ih =>
    intro h j v hv
    rw [flat_succ, List.getElem?_append, flat_len] at hv
    split at hv
    · exact ih (fun k hk => h k (by omega)) j v hv
    · have := h m (by omega) _ v hv
      rw [show s + m * sh.length + (j - m * sh.length) = s + j by omega] at this
      exact this
theorem mappend_ok {t : TypeId} {sx sy : Operand} (ho : o.op = .call ⟨.builtin .append, ⟨[sx, sy]⟩, ⟨[t, t]⟩⟩) (h : (mappend P t (S.ev sx) (S.ev sy) o.dst S k).sat Φ) (hs : SC ρ S.slots a) (hc : HC base w0 ρ S.heap w)
    (hn : ∀ ρ' S' a' w', (k S').sat Φ → SC ρ' S'.slots a' → HC base w0 ρ' S'.heap w' → RLe ρ ρ' → next a' w') : o.wp P a w next Q := by
  unfold mappend at h
  split at h
  · rename_i e hu
    split at h
    · rename_i inf hi
      split at h
      · rename_i z hz
        split at h
        · rename_i sh hk
          split at h
          · rename_i hch
            simp only [Bool.and_eq_true, Nat.beq_eq, Nat.blt_eq] at hch
            obtain ⟨⟨⟨hc1, hc2⟩, hc3⟩, hc4⟩ := hch
            split at h
            · rename_i x hx
              split at h
              · rename_i y hy
                obtain ⟨H1, n, g, h, hl, hH, huA⟩ := appAt_ok h hc (hs.ev hx)
                obtain ⟨m, cy, f, l, h, ⟨hrow, _⟩, hyR⟩ := rowsOf_ok h hc (hs.ev hy)
                obtain ⟨hby, h⟩ := h
                have hzs : z.cells.size = sh.length := by rw [cellsL_eq]; exact hc2
                have hsrc : Src w sh m f (a.eval sy) := by
                  rcases (hyR (fun _ => some l) 0 rfl).sliceA with ⟨b, s, z, e, hlc, e2⟩ | ⟨rfl, rfl, ad, e2⟩
                  · cases e
                    rw [e2]
                    refine ⟨_, _, rfl, .inr ⟨_, rfl, fun j v hv => ?_⟩⟩
                    rcases hrow.2 with rfl | ⟨b', s', e, h2⟩
                    · simp [flat] at hv
                    · cases e
                      rw [addr_add]
                      exact flat_lies h2 j v hv
                  · rw [e2]
                    exact ⟨_, _, rfl, .inl rfl⟩
                have fin : ∀ u' w' (row : Option Nat) (l' : Loc) (c' : Nat), (Builtin.append_ #[t, t] o.type #[a.eval sx, a.eval sy]).run P w = .ok u' w' → w.grownBy w' row → (∀ b, row = some b → base ≤ b) →
                    (∀ (j : Nat) o, H1[j]? = some o → o = .gone ∨ ∀ b s z, ρ j = some (some (b, s, z)) → some b ≠ row) → w'.ownsRow base e sh.length (rowV l' (n + m) c') (n + m) (flat sh (n + m) (joinG n g f)) →
                    (∀ b s z, l' = some (b, s, z) → s = 0 ∧ z = sh.length ∧ b < w'.heap.size ∧ (some b = row ∨ w.heap.size ≤ b)) → (∀ ρ' i, ρ' i = some l' → Rn ρ' (.slice (some ⟨i, 0, none⟩) (n + m) c') u') → o.wp P a w next Q := by
                  intro u' w' row l' c' hr hg hrw hH2 hown hl' hv
                  obtain ⟨q1, q2⟩ := hc.grow (H1 := H1) hl (fun j o hj => by
                    rcases hH j o hj with e | e
                    · exact .inl e
                    · rcases hH2 j o hj with e2 | e2
                      · exact .inl e2
                      · exact .inr ⟨e, e2⟩) hrw hg hown hl'
                  unfold Oper.wp execOp
                  simp only [ho, resolve, invoke, builtin, Sem.run_bind, Sem.run_pure, Result.andThen_ok, List.map_toArray, List.map_cons, List.map_nil, hr]
                  exact hn _ _ _ _ (h c') (SC.putH (hs.mono q2) _ o.dst (hv _ _ (if_pos rfl))) (by rw [ASt.put_heap]; exact q1) q2
                rcases huA with ⟨rfl, ad, hu2⟩ | ⟨hown, hH2⟩
                · obtain ⟨u', w', r1, r2, r3⟩ := app_none (P := P) (ty := o.type) (ad := ad) (g := g) hu hi hz hc1 hzs hc3 hc4 hsrc hby hc.floor
                  rw [← hu2] at r1
                  have nn : ∀ (j : Nat) o, H1[j]? = some o → o = .gone ∨ ∀ b s z, ρ j = some (some (b, s, z)) → some b ≠ none := fun j o _ => .inr fun b s z _ e => by cases e
                  rcases r3 with ⟨rfl, rfl, rfl⟩ | ⟨r3, r4⟩
                  · exact fin _ _ none none 0 r1 r2 (fun b e => by cases e) nn (World.ownsRow_nil _ _ _ _) (fun b s z e => by cases e) fun ρ' i _ => .sliceE rfl rfl
                  · obtain ⟨l', c', e1, e2, e3⟩ := own_fin r3
                    refine fin _ _ none l' c' r1 r2 (fun b e => by cases e) nn e1 (fun b s z e => ?_) e3
                    obtain ⟨f1, f2, f3, f4⟩ := e2 b s z e
                    refine ⟨f1, f2, f3, .inr ?_⟩
                    rw [f4] at r4
                    rcases r4 with r4 | r4
                    · cases r4
                    · cases r4; exact Nat.le_refl _
                · obtain ⟨u', w', r1, r2, r3, r4⟩ := app_own (P := P) (ty := o.type) hu hi hz hc1 hzs hc3 hc4 hown hsrc hby hc.floor
                  obtain ⟨l', c', e1, e2, e3⟩ := own_fin r2
                  refine fin _ _ _ l' c' r1 r3 (fun b e => (hown.lt b e).1) hH2 e1 (fun b s z e => ?_) e3
                  obtain ⟨f1, f2, f3, f4⟩ := e2 b s z e
                  refine ⟨f1, f2, f3, ?_⟩
                  rw [f4] at r4
                  rcases r4 with r4 | r4
                  · exact .inl r4
                  · cases r4; exact .inr (Nat.le_refl _)
              · exact h.elim
            · exact h.elim
          · exact h.elim
        · exact h.elim
      · exact h.elim
    · exact h.elim
  · exact h.elim
end
section
variable {Kn : Kn} {o : Oper} {Φ : Lf} {k : ASt → Out} {ρ : Ren} {a : Act} {w w0 : World} {base : Nat} {S : ASt} {next : Act → World → Prop} {Q : Exit → Act → World → Prop}
theorem vx_ok (hK : Kn.Ok) (h : (vx Kn o S k).sat Φ) (hs : SC ρ S.slots a) (hc : HC base w0 ρ S.heap w)
    (hn : ∀ ρ' S' a' w', (k S').sat Φ → SC ρ' S'.slots a' → HC base w0 ρ' S'.heap w' → RLe ρ ρ' → next a' w') : o.wp Kn.P a w next Q := by
  obtain ⟨v, u, h1, h2, h3⟩ := vop_ok hK.v h hs hc
  refine Oper.wp_of_quiet (C := fun w' => Below w.heap.size w w') (K := fun a' => a' = a.put o.dst u) (Below.refl _ _) (fun a' w' hw' e => ?_) ⟨u, h3, rfl⟩
  subst e
  exact hn ρ _ _ w' h1 (hs.put o.dst h2) (by rw [ASt.put_heap]; exact hc.step hw') (RLe.refl ρ)
theorem fnOf_some {v : Option Value} {g : FuncId} (h : fnOf v = some g) : v = some (.func (.func g) ⟨[]⟩ ⟨[]⟩) := by
  unfold fnOf at h
  split at h
  · cases h; rfl
  · cases h
theorem mx_ok (hK : Kn.Ok) (h : (mx Kn o S k).sat Φ) (hs : SC ρ S.slots a) (hc : HC base w0 ρ S.heap w)
    (hn : ∀ ρ' S' a' w', (k S').sat Φ → SC ρ' S'.slots a' → HC base w0 ρ' S'.heap w' → RLe ρ ρ' → next a' w') : o.wp Kn.P a w next Q := by
  unfold mx at h
  split at h
  · rename_i t ho; exact malloc_ok ho h hs hc hn
  · rename_i t x ho; exact mbox_ok ho h hs hc hn
  · rename_i t x y ho; exact mstore_ok ho h hs hc hn
  · rename_i t n ps ho; exact mbuildSlice_ok ho h hs hc hn
  · rename_i x y t t' ho
    split at h
    · rename_i hb
      rw [Nat.beq_eq] at hb
      subst hb
      exact mappend_ok ho h hs hc hn
    · exact h.elim
  · rename_i f xs ts ho
    split at h
    · rename_i g hg
      have hf := fnOf_some hg
      split at h
      · rename_i F hF
        unfold mcall at h
        split at h
        · rename_i vs hx
          obtain ⟨q1, q2⟩ := hK.m g F hF
          have hr := evL_RL hs hx
          have hu := (clean_Rn (v := .func (.func g) ⟨[]⟩ ⟨[]⟩) rfl).1 (hs.ev hf)
          unfold Oper.wp
          have hrun : (execOp a.eval o).run Kn.P w = .ok (.enter g ⟨xs.map a.eval⟩) w := by
            unfold execOp
            rw [ho]
            simp only [resolve, hu, Deferred.ofValue]
            rw [Sem.run_bind]
            simp only [Sem.run_pure, Result.andThen_ok, invoke]
            rw [q1]
            simp
          rw [hrun]
          exact q2 Φ vs S.heap _ h base w0 ρ w _ hc hr _ fun v H' ρ' w' u g1 g2 g3 g4 => hn ρ' _ _ w' g1 (SC.putH (hs.mono g3) H' o.dst g4) (by rw [ASt.put_heap]; exact g2) g3
        · exact h.elim
      · exact vx_ok hK h hs hc hn
    · exact h.elim
  · exact vx_ok hK h hs hc hn
end
/-- A region in the text's order. -/
theorem list_ok {Kn : Kn} (hK : Kn.Ok) {Φ : Lf} {base : Nat} {w0 : World} {ops : List Oper} {k : ASt → Out} {Q : Exit → Act → World → Prop} : ∀ (l : List Oper) (ρ : Ren) (S : ASt) (a : Act) (w : World),
    (evOps (mx Kn) ops l S k).sat Φ → SC ρ S.slots a → HC base w0 ρ S.heap w → (∀ ρ' S' a' w', (k S').sat Φ → SC ρ' S'.slots a' → HC base w0 ρ' S'.heap w' → RLe ρ ρ' → Q .normal a' w') → wpList Kn.P ⟨ops⟩ Q l a w
  | [], ρ, S, a, w, h, hs, hc, hq => hq ρ S a w h hs hc (RLe.refl ρ)
  | o :: l, ρ, S, a, w, h, hs, hc, hq => by
    unfold evOps at h
    unfold wpList
    rcases gtest_ok h hs with ⟨hw, S', h, hs, hh'⟩ | ⟨hw, S', h, hs, hh'⟩
    · rw [if_pos hw]
      exact .inl (mx_ok hK h hs (by rw [hh']; exact hc) fun ρ' S2 a2 w2 g1 g2 g3 g4 => list_ok hK l ρ' S2 a2 w2 g1 g2 g3 fun ρ3 S3 a3 w3 e1 e2 e3 e4 => hq ρ3 S3 a3 w3 e1 e2 e3 (g4.trans e4))
    · rw [if_neg (by rw [hw]; simp)]
      exact list_ok hK l ρ _ _ w h (hs.put o.dst (undef_Rn ρ)) (by rw [ASt.put_heap, hh']; exact hc) hq
end Go.Proofs.Ytcplbpnpcmgjfab
