/- A region that draws its order and makes one new box: one walk serves every order. -/
import Derived.Test.YtcplbpnpcmgjfaaCa
namespace Go.Proofs.Ytcplbpnpcmgjfaa
open Go.ChangeShapes Go.WideShapes Go.ChangeAt Go.RowKit Go.Shelf
section
variable {P : Program} {ops : Array Oper} {md : Region.Mode} {C : World → Prop} {n k m : Nat} {Z : Obj} {R : Nat → Array Bool → Option Nat → Act → Prop}
/-- quiet: one value in every world of the class; a call leaves all that was there as it was -/
def Yr (P : Program) (ops : Array Oper) (C : World → Prop) (o : Oper) (v : Value) (a : Act) : Prop :=
  (Region.wanted o (yielded ops a.tmps) = true ∧ ∀ w, C w → o.quietAt P a (fun w'' => Below w.heap.size w w'') w v) ∨ (Region.wanted o (yielded ops a.tmps) = false ∧ v = undef)
theorem Yr.of_same {o : Oper} {v : Value} {a a' : Act} (hy : Yr P ops C o v a) (he : execOp a'.eval o = execOp a.eval o)
    (hw : Region.wanted o (yielded ops a'.tmps) = Region.wanted o (yielded ops a.tmps)) : Yr P ops C o v a' := by
  unfold Yr Oper.quietAt at *
  rw [he, hw]
  exact hy
/-- does it take a part of a tuple? (whether it comes ahead of the stores or behind them is left open) -/
def isEx (o : Oper) : Bool := match o.op with
  | .extract _ _ => true
  | _ => false
/-- the walk of the operations ahead of the box -/
def wpFr (P : Program) (ops : Array Oper) (C : World → Prop) (Q : Act → Prop) : List Oper → Act → Prop
  | [], a => Q a
  | o :: rest, a => if Region.wanted o (yielded ops a.tmps) then (if isEx o = true then ∃ v, (∀ w, (execOp a.eval o).run P w = .ok (.value v) w) ∧ wpFr P ops C Q rest (a.put o.dst v) else ∃ v, (∀ w, C w → o.quietAt P a (fun w'' => Below w.heap.size w w'') w v) ∧ wpFr P ops C Q rest (a.put o.dst v)) else wpFr P ops C Q rest (a.put o.dst undef)
/-- operation i comes up; k: the one that makes the box -/
def opF (P : Program) (ops : Array Oper) (C : World → Prop) (n k : Nat) (i : Nat) (K : Option Nat → Act → Prop) (γ : Option Nat) (a : Act) : Prop :=
  match ops[i]? with
  | none => K γ a
  | some o => if i = k then ∀ g, n ≤ g → K (some g) (a.put o.dst (.pointer (some ⟨g, 0, none⟩))) else ∃ v, Yr P ops C o v a ∧ K γ (a.put o.dst v)
/-- those that all stores wait for -/
def req (ops : Array Oper) (j : Nat) : Bool := match ops[j]? with
  | some o => !isEx o
  | none => true
/-- the first m have come up, parts of tuples aside -/
def dn (ops : Array Oper) (m : Nat) (listed : Array Bool) : Bool := (List.range m).all fun j => !req ops j || listed.getD j false
/-- whatever order is picked, till the first m have come up -/
def wpAnyF (P : Program) (md : Region.Mode) (ops : Array Oper) (C : World → Prop) (n k m : Nat) (R : Nat → Array Bool → Option Nat → Act → Prop) : Nat → Array Bool → Option Nat → Act → Prop
  | 0, listed, γ, a => dn ops m listed = true ∧ R 0 listed γ a
  | f + 1, listed, γ, a => if dn ops m listed = true then R (f + 1) listed γ a else Region.ready md ops listed ≠ [] ∧ ∀ i ∈ Region.ready md ops listed, opF P ops C n k i (wpAnyF P md ops C n k m R f (listed.setIfInBounds i true)) γ a
/-- what is known of the world -/
def Jr (C : World → Prop) (n : Nat) (Z : Obj) (γ : Option Nat) (w : World) : Prop := C w ∧ ∀ g, γ = some g → n ≤ g ∧ w.heap[g]? = some Z
theorem any_of_F {Q : Exit → Act → World → Prop} (hal : ∀ o, ops[k]? = some o → o.guard = none ∧ ∀ ev w, (execOp ev o).run P w = .ok (.value (.pointer (some ⟨w.heap.size, 0, none⟩))) (w.alloc Z))
    (hC : ∀ w w', C w → Below w.heap.size w w' → C w') (hn : ∀ w, C w → n ≤ w.heap.size) (hR : ∀ f listed γ a w, Jr C n Z γ w → R f listed γ a → wpAny P md ops Q f listed a w) :
    ∀ f listed γ a w, Jr C n Z γ w → wpAnyF P md ops C n k m R f listed γ a → wpAny P md ops Q f listed a w := by
  intro f
  induction f with
  | zero => intro listed γ a w hJ h; exact hR 0 listed γ a w hJ h.2
  | succ f ih =>
    intro listed γ a w hJ h
    unfold wpAnyF at h
    split at h
    · exact hR _ _ _ _ _ hJ h
    · refine ⟨fun h0 => absurd h0 h.1, fun i hi => ?_⟩
      have h2 := h.2 i hi
      unfold opF at h2
      unfold wpOp
      cases ho : ops[i]? with
      | none => rw [ho] at h2; exact ih _ _ _ _ hJ h2
      | some o =>
        rw [ho] at h2
        simp only at h2 ⊢
        by_cases hik : i = k
        · rw [if_pos hik] at h2
          subst hik
          obtain ⟨hg, hrun⟩ := hal o ho
          have hw : Region.wanted o (yielded ops a.tmps) = true := by unfold Region.wanted; rw [hg]
          rw [if_pos hw]
          refine .inl ?_
          unfold Oper.wp
          rw [hrun]
          show wpAny _ _ _ _ _ _ _ _
          have hJ' : Jr C n Z (some w.heap.size) (w.alloc Z) := ⟨hC _ _ hJ.1 (below_new w Z), fun g hg => by cases hg; exact ⟨hn _ hJ.1, heap_new w Z⟩⟩
          exact ih _ _ _ _ hJ' (h2 _ (hn _ hJ.1))
        · rw [if_neg hik] at h2
          obtain ⟨v, hy, hK⟩ := h2
          rcases hy with ⟨hw, hq⟩ | ⟨hw, rfl⟩
          · rw [if_pos hw]
            refine .inl ?_
            have hq2 := hq w hJ.1
            unfold Oper.quietAt at hq2
            unfold Oper.wp
            generalize (execOp a.eval o).run P w = r at *
            cases r with
            | ok nx w' =>
              cases nx <;> simp only [Oper.quietUpon] at hq2 <;> simp only [Oper.upon]
              case value u =>
                obtain ⟨e1, e2⟩ := hq2
                rw [e1, e2]
                exact ih _ _ _ _ hJ hK
              case skip =>
                obtain ⟨e1, e2⟩ := hq2
                rw [e1, ← e2]
                exact ih _ _ _ _ hJ hK
              case enter g args =>
                obtain ⟨e1, hc⟩ := hq2
                rw [e1]
                refine hc.mono fun e w'' ⟨he, hb⟩ => ?_
                subst he
                exact ih _ _ _ _ ⟨hC _ _ hJ.1 hb, fun g hg => ⟨(hJ.2 g hg).1, (hb.block g (heap_lt (hJ.2 g hg).2)).trans (hJ.2 g hg).2⟩⟩ hK
            | halt x w' => simp only [Oper.quietUpon] at hq2
          · rw [if_neg (by rw [hw]; exact Bool.false_ne_true)]
            exact ih _ _ _ _ hJ hK
theorem opF_mono {i : Nat} {γ : Option Nat} {a : Act} {K K' : Option Nat → Act → Prop} (h : ∀ γ a, K γ a → K' γ a) (hh : opF P ops C n k i K γ a) : opF P ops C n k i K' γ a := by
  unfold opF at *
  split
  · rename_i e; rw [e] at hh; exact h _ _ hh
  · rename_i o e
    rw [e] at hh
    simp only at hh
    split
    · rename_i c; rw [if_pos c] at hh; exact fun g hg => h _ _ (hh g hg)
    · rename_i c; rw [if_neg c] at hh; obtain ⟨v, h1, h2⟩ := hh; exact ⟨v, h1, h _ _ h2⟩
theorem opF_put {j : Nat} {oi oj : Oper} {v : Value} {γ : Option Nat} (hj : ops[j]? = some oj) (hap : oi.apart ops oj = true) (hsi : ∀ cs b, oi.op ≠ .select cs b) (hsj : ∀ cs b, oj.op ≠ .select cs b) {K : Option Nat → Act → Prop} {a : Act}
    (hy : Yr P ops C oi v a) (h : opF P ops C n k j K γ (a.put oi.dst v)) : opF P ops C n k j (fun γ' a' => Yr P ops C oi v a' ∧ K γ' (a'.put oi.dst v)) γ a := by
  obtain ⟨h1, h2, h3⟩ := Oper.apart_spec hap
  have keep : ∀ (a : Act), Yr P ops C oi v a → ∀ u, Yr P ops C oi v (a.put oj.dst u) := fun a hy u =>
    hy.of_same (execOp_put oi hsi a oj.dst u h3) (wanted_put oi a oj.dst u h3)
  unfold opF at *
  rw [hj] at h ⊢
  simp only at h ⊢
  split
  · rename_i c
    rw [if_pos c] at h
    exact fun g hg => ⟨keep a hy _, by rw [← Act.put_comm a v _ h2]; exact h g hg⟩
  · rename_i c
    rw [if_neg c] at h
    obtain ⟨u, hu, hn⟩ := h
    exact ⟨u, hu.of_same (execOp_put oj hsj a oi.dst v h1).symm (wanted_put oj a oi.dst v h1).symm, keep a hy u, by rw [← Act.put_comm a v u h2]; exact hn⟩
theorem opF_putY {j : Nat} {oi oj : Oper} {v : Value} {γ : Option Nat} (hj : ops[j]? = some oj) (hap : oi.apart ops oj = true) (hsi : ∀ cs b, oi.op ≠ .select cs b) (hsj : ∀ cs b, oj.op ≠ .select cs b) {K : Option Nat → Act → Prop} {a : Act}
    (hyy : Yields P ops oi v a) (hy : Yr P ops C oi v a) (h : opF P ops C n k j K γ (a.put oi.dst v)) : opF P ops C n k j (fun γ' a' => Yr P ops C oi v a' ∧ Yields P ops oi v a' ∧ K γ' (a'.put oi.dst v)) γ a := by
  obtain ⟨h1, h2, h3⟩ := Oper.apart_spec hap
  have keep : ∀ (a : Act), Yr P ops C oi v a → ∀ u, Yr P ops C oi v (a.put oj.dst u) := fun a hy u =>
    hy.of_same (execOp_put oi hsi a oj.dst u h3) (wanted_put oi a oj.dst u h3)
  have keepY : ∀ (a : Act), Yields P ops oi v a → ∀ u, Yields P ops oi v (a.put oj.dst u) := fun a hy u =>
    hy.of_same (execOp_put oi hsi a oj.dst u h3) (wanted_put oi a oj.dst u h3)
  unfold opF at *
  rw [hj] at h ⊢
  simp only at h ⊢
  split
  · rename_i c
    rw [if_pos c] at h
    exact fun g hg => ⟨keep a hy _, keepY a hyy _, by rw [← Act.put_comm a v _ h2]; exact h g hg⟩
  · rename_i c
    rw [if_neg c] at h
    obtain ⟨u, hu, hn⟩ := h
    exact ⟨u, hu.of_same (execOp_put oj hsj a oi.dst v h1).symm (wanted_put oj a oi.dst v h1).symm, keep a hy u, keepY a hyy u, by rw [← Act.put_comm a v u h2]; exact hn⟩
theorem getD_both {listed : Array Bool} {j : Nat} (h : listed.getD j true = false) : listed.getD j false = false := by
  simp only [Array.getD_eq_getD_getElem?] at *
  cases hx : listed[j]? with
  | none => rw [hx] at h; simp at h
  | some b => simp [hx] at h ⊢; exact h
theorem dn_false {listed : Array Bool} {j : Nat} (hj : j < m) (hq : req ops j = true) (h : listed.getD j true = false) : dn ops m listed = false := by
  rw [Bool.eq_false_iff]
  intro hd
  have := List.all_eq_true.1 hd j (List.mem_range.2 hj)
  rw [hq, getD_both h] at this
  cases this
theorem dn_at {listed : Array Bool} {j : Nat} (hd : dn ops m listed = true) (hj : j < m) (hq : req ops j = true) : listed.getD j false = true := by
  have := List.all_eq_true.1 hd j (List.mem_range.2 hj)
  rw [hq] at this
  simpa using this
theorem dn_mono {listed : Array Bool} {i : Nat} (hd : dn ops m listed = true) : dn ops m (listed.setIfInBounds i true) = true := by
  refine List.all_eq_true.2 fun j hj => ?_
  have := List.all_eq_true.1 hd j hj
  rcases Bool.or_eq_true _ _ ▸ this with h | h
  · rw [h]; rfl
  · rw [getD_set_true h, Bool.or_true]
/-- who has come up has those ahead of it come up -/
def Cl (md : Region.Mode) (ops : Array Oper) (listed : Array Bool) : Prop := ∀ j oj, ops[j]? = some oj → listed.getD j false = true → ∀ e ∈ oj.after, Region.binds md e = true → listed.getD e.on false = true
theorem Cl.set {listed : Array Bool} {j : Nat} (h : Cl md ops listed) (hj : j ∈ Region.ready md ops listed) : Cl md ops (listed.setIfInBounds j true) := by
  intro t ot ht hl e he hb
  refine getD_set_true ?_
  by_cases htj : j = t
  · subst htj
    obtain ⟨_, o, ho, hall⟩ := mem_ready.1 hj
    rw [ht] at ho
    cases ho
    exact hall e he hb
  · rw [getD_set_ne false htj] at hl
    exact h t ot ht hl e he hb
theorem wpAnyF_first {Q : Exit → Act → World → Prop} {i : Nat} {oi : Oper} {v : Value} (hi : ops[i]? = some oi) (hik : i ≠ k) (him : i < m) (hsel : ∀ (j : Nat) (o : Oper) cs b, ops[j]? = some o → o.op ≠ .select cs b)
    (hQ : ∀ c a w, ¬ Q (.panic c) a w)
    (hpost : req ops i = true → ∀ j oj, ops[j]? = some oj → m ≤ j → ∃ e ∈ oj.after, Region.binds md e = true ∧ e.on = i)
    (hanc : req ops i = true → ∀ listed, Cl md ops listed → listed.getD i true = false → dn ops m (listed.setIfInBounds i true) = true → ∀ j, j < m → req ops j = false → j ∉ Region.ready md ops listed) :
    ∀ (f : Nat) (listed : Array Bool) (γ : Option Nat) (a : Act), Cl md ops listed →
      (∀ j oj, ops[j]? = some oj → j ≠ i → listed.getD j true = false → (∀ e ∈ oj.after, Region.binds md e = true → e.on ≠ i) → oi.apart ops oj = true) →
      i ∈ Region.ready md ops listed → Yr P ops C oi v a → (req ops i = false → Yields P ops oi v a) →
      wpAnyF P md ops C n k m (fun f listed γ a => (f = 0 → Region.ready md ops listed = []) ∧ ∀ w, Jr C n Z γ w → wpAny P md ops Q f listed a w) f (listed.setIfInBounds i true) γ (a.put oi.dst v) →
      wpAnyF P md ops C n k m (fun f listed γ a => (f = 0 → Region.ready md ops listed = []) ∧ ∀ w, Jr C n Z γ w → wpAny P md ops Q f listed a w) (f + 1) listed γ a := by
  intro f
  induction f with
  | zero =>
    intro listed γ a _ hfree hr hy hyp H
    unfold wpAnyF
    split
    · rename_i hd
      have hq : req ops i = false := by
        cases hq : req ops i with
        | false => rfl
        | true => rw [dn_false him hq (mem_ready.1 hr).1] at hd; cases hd
      exact ⟨fun h => (by cases h), fun w hJ => wpAny_first hi hsel (fun c a w h => absurd h (hQ c _ w)) 0 listed a w hfree hr (hyp hq) (H.2.2 w hJ)⟩
    · refine ⟨fun h => (by rw [h] at hr; cases hr), fun j hj => ?_⟩
      by_cases hji : j = i
      · subst hji
        unfold opF
        rw [hi]
        simp only
        rw [if_neg hik]
        exact ⟨v, hy, H⟩
      · have := ready_mono hj hji
        rw [H.2.1 rfl] at this
        cases this
  | succ f ih =>
    intro listed γ a hcl hfree hr hy hyp H
    unfold wpAnyF
    split
    · rename_i hd
      have hq : req ops i = false := by
        cases hq : req ops i with
        | false => rfl
        | true => rw [dn_false him hq (mem_ready.1 hr).1] at hd; cases hd
      unfold wpAnyF at H
      rw [if_pos (dn_mono hd)] at H
      exact ⟨fun h => (by cases h), fun w hJ => wpAny_first hi hsel (fun c a w h => absurd h (hQ c _ w)) (f + 1) listed a w hfree hr (hyp hq) (H.2 w hJ)⟩
    · rename_i hd
      refine ⟨fun h => (by rw [h] at hr; cases hr), fun j hj => ?_⟩
      by_cases hji : j = i
      · subst hji
        unfold opF
        rw [hi]
        simp only
        rw [if_neg hik]
        exact ⟨v, hy, H⟩
      · obtain ⟨hjun, oj, hoj, hall⟩ := mem_ready.1 hj
        have hnot : ∀ e ∈ oj.after, Region.binds md e = true → e.on ≠ i := fun e he hb heq => by
          have h1 := hall e he hb
          rw [heq, getD_both (mem_ready.1 hr).1] at h1
          cases h1
        unfold wpAnyF at H
        split at H
        · rename_i hd2
          exfalso
          have hq : req ops i = true := by
            cases hq : req ops i with
            | true => rfl
            | false =>
              exfalso
              apply hd
              refine List.all_eq_true.2 fun t ht => ?_
              have h5 := List.all_eq_true.1 hd2 t ht
              by_cases hti : i = t
              · rw [← hti, hq]; rfl
              · rw [getD_set_ne false hti] at h5; exact h5
          by_cases hjm : j < m
          · cases hqj : req ops j with
            | true =>
              have := dn_at hd2 hjm hqj
              rw [getD_set_ne false (Ne.symm hji), getD_both hjun] at this
              cases this
            | false => exact hanc hq listed hcl (mem_ready.1 hr).1 hd2 j hjm hqj hj
          · obtain ⟨e, he, hb, heq⟩ := hpost hq j oj hoj (by omega)
            exact hnot e he hb heq
        · have h1 := H.2 j (ready_mono hj hji)
          have h2 := opF_put hoj (hfree j oj hoj hji hjun hnot) (fun cs b => hsel i oi cs b hi) (fun cs b => hsel j oj cs b hoj) hy h1
          have hfree' : ∀ k ok, ops[k]? = some ok → k ≠ i → (listed.setIfInBounds j true).getD k true = false →
              (∀ e ∈ ok.after, Region.binds md e = true → e.on ≠ i) → oi.apart ops ok = true := fun k ok hk hki hun hno => by
            refine hfree k ok hk hki ?_ hno
            by_cases hjk : j = k
            · subst hjk; exact hjun
            · rw [getD_set_ne true hjk] at hun; exact hun
          by_cases hqi : req ops i = true
          · refine opF_mono (fun γ' a' h3 => ih (listed.setIfInBounds j true) γ' a' (hcl.set hj) hfree' (ready_mono hr (Ne.symm hji)) h3.1 (fun h => absurd hqi (by rw [h]; exact Bool.false_ne_true)) ?_) h2
            rw [Array.setIfInBounds_comm _ _ hji]
            exact h3.2
          · have hqi' : req ops i = false := by simpa using hqi
            have h3 := opF_putY hoj (hfree j oj hoj hji hjun hnot) (fun cs b => hsel i oi cs b hi) (fun cs b => hsel j oj cs b hoj) (hyp hqi') hy h1
            refine opF_mono (fun γ' a' h3 => ih (listed.setIfInBounds j true) γ' a' (hcl.set hj) hfree' (ready_mono hr (Ne.symm hji)) h3.1 (fun _ => h3.2.1) ?_) h3
            rw [Array.setIfInBounds_comm _ _ hji]
            exact h3.2.2
/-- the Bool over a region -/
def lexP (md : Region.Mode) (ops : Array Oper) (k : Nat) : Nat → Nat → Array Bool → Bool
  | 0, j, listed => j == k && Region.ready md ops listed == [k] && !dn ops (k + 1) listed && dn ops (k + 1) (listed.setIfInBounds k true)
  | c + 1, j, listed => decide (j < k) && (Region.ready md ops listed).contains j && Region.free md ops listed j && lexP md ops k c (j + 1) (listed.setIfInBounds j true)
/-- which have come up behind c steps -/
def lst : Nat → Nat → Array Bool → Array Bool
  | 0, _, listed => listed
  | c + 1, j, listed => lst c (j + 1) (listed.setIfInBounds j true)
def singles (md : Region.Mode) (ops : Array Oper) : Nat → Nat → Array Bool → Bool
  | 0, _, listed => (Region.ready md ops listed).isEmpty
  | c + 1, j, listed => Region.ready md ops listed == [j] && singles md ops c (j + 1) (listed.setIfInBounds j true)
def waitsOn (md : Region.Mode) (o : Oper) (i : Nat) : Bool := o.after.any fun e => Region.binds md e && e.on == i
theorem waitsOn_spec {o : Oper} {i : Nat} (h : waitsOn md o i = true) : ∃ e ∈ o.after, Region.binds md e = true ∧ e.on = i := by
  unfold waitsOn at h
  rw [Array.any_eq_true] at h
  obtain ⟨x, hx, h3⟩ := h
  simp only [Bool.and_eq_true, beq_iff_eq] at h3
  exact ⟨_, Array.getElem_mem hx, h3.1, h3.2⟩
def waits (md : Region.Mode) (ops : Array Oper) (m : Nat) : Bool := (List.range m).all fun i => !req ops i || ((List.range ops.size).all fun j => decide (j < m) || match ops[j]? with
  | some oj => waitsOn md oj i
  | none => true)
theorem waits_spec (h : waits md ops m = true) {i : Nat} (hi : i < m) (hq : req ops i = true) (j : Nat) (oj : Oper) (hj : ops[j]? = some oj) (hm : m ≤ j) : ∃ e ∈ oj.after, Region.binds md e = true ∧ e.on = i := by
  have hjs : j < ops.size := (Array.getElem?_eq_some_iff.1 hj).1
  have h0 := List.all_eq_true.1 h i (List.mem_range.2 hi)
  rw [hq, Bool.not_true, Bool.false_or] at h0
  have h1 := List.all_eq_true.1 h0 j (List.mem_range.2 hjs)
  simp only [hj] at h1
  rw [decide_eq_false (show ¬ j < m by omega), Bool.false_or] at h1
  exact waitsOn_spec h1
def ancB (md : Region.Mode) (ops : Array Oper) (k m : Nat) : Bool := (List.range m).all fun i => !req ops i || i == k || ((List.range m).any fun t => req ops t && t != i && match ops[t]? with
  | some ot => waitsOn md ot i
  | none => false) || ((List.range m).all fun j => req ops j || match ops[j]? with
  | some oj => waitsOn md oj i
  | none => true)
theorem ancB_spec (h : ancB md ops k m = true) {i : Nat} (hi : i < m) (hik : i ≠ k) (hq : req ops i = true) (listed : Array Bool) (hcl : Cl md ops listed) (hun : listed.getD i true = false) (hd : dn ops m (listed.setIfInBounds i true) = true) (j : Nat) (hj : j < m) (hqj : req ops j = false) : j ∉ Region.ready md ops listed := by
  intro hr
  have h0 := List.all_eq_true.1 h i (List.mem_range.2 hi)
  rw [hq, Bool.not_true, Bool.false_or, show (i == k) = false from beq_eq_false_iff_ne.2 hik, Bool.false_or, Bool.or_eq_true] at h0
  have hu := getD_both hun
  rcases h0 with h0 | h0
  · obtain ⟨t, ht, h1⟩ := List.any_eq_true.1 h0
    simp only [Bool.and_eq_true, bne_iff_ne, ne_eq] at h1
    obtain ⟨⟨h2, h3⟩, h4⟩ := h1
    cases hot : ops[t]? with
    | none => rw [hot] at h4; cases h4
    | some ot =>
      rw [hot] at h4
      obtain ⟨e, he, hb, heq⟩ := waitsOn_spec h4
      have h5 := dn_at hd (List.mem_range.1 ht) h2
      rw [getD_set_ne false (fun h => h3 h.symm)] at h5
      have h6 := hcl t ot hot h5 e he hb
      rw [heq, hu] at h6
      cases h6
  · have h1 := List.all_eq_true.1 h0 j (List.mem_range.2 hj)
    rw [hqj, Bool.false_or] at h1
    obtain ⟨_, oj, hoj, hall⟩ := mem_ready.1 hr
    rw [hoj] at h1
    obtain ⟨e, he, hb, heq⟩ := waitsOn_spec h1
    have h6 := hall e he hb
    rw [heq, hu] at h6
    cases h6
theorem anyF_lex {Q : Exit → Act → World → Prop} (hQ : ∀ c a w, ¬ Q (.panic c) a w) (hs : Region.noSelect ops = true) (hw : waits md ops (k + 1) = true) (ha : ancB md ops k (k + 1) = true) (f : Nat) : ∀ (l : List Oper) (j : Nat) (listed : Array Bool) (a : Act), Cl md ops listed → (∀ t, t < l.length → l[t]? = ops[j + t]?) → lexP md ops k l.length j listed = true →
    wpFr P ops C (fun a' => ∀ g, n ≤ g → (f = 0 → Region.ready md ops ((lst l.length j listed).setIfInBounds k true) = []) ∧ ∀ w, Jr C n Z (some g) w → wpAny P md ops Q f ((lst l.length j listed).setIfInBounds k true) (a'.put ((ops[k]?).bind (·.dst)) (.pointer (some ⟨g, 0, none⟩))) w) l a → k < ops.size →
    wpAnyF P md ops C n k (k + 1) (fun f listed γ a => (f = 0 → Region.ready md ops listed = []) ∧ ∀ w, Jr C n Z γ w → wpAny P md ops Q f listed a w) (l.length + (f + 1)) listed none a
  | [], j, listed, a, _, _, hB, h, hks => by
    simp only [List.length_nil, lexP, Bool.and_eq_true, beq_iff_eq, Bool.not_eq_true'] at hB
    obtain ⟨⟨⟨hj, hr⟩, hd⟩, hd2⟩ := hB
    show wpAnyF P md ops C n k (k + 1) _ (0 + (f + 1)) listed none a
    rw [Nat.zero_add]
    unfold wpAnyF
    rw [if_neg (by rw [hd]; exact Bool.false_ne_true), hr]
    refine ⟨by simp, fun i hi => ?_⟩
    obtain rfl : i = k := by simpa using hi
    have ho : ops[i]? = some ops[i] := Array.getElem?_eq_getElem hks
    unfold opF
    rw [ho]
    simp only
    rw [if_pos trivial]
    intro g hg
    have h2 := h g hg
    rw [ho] at h2
    cases f with
    | zero => exact ⟨hd2, h2⟩
    | succ f => unfold wpAnyF; rw [if_pos hd2]; exact h2
  | o :: l, j, listed, a, hcl, hl, hB, h, hks => by
    have h0 : ops[j]? = some o := by simpa using (hl 0 (by simp)).symm
    simp only [List.length_cons, lexP, Bool.and_eq_true] at hB
    obtain ⟨⟨⟨hjk, hr⟩, hf⟩, hB'⟩ := hB
    have hjk : j < k := of_decide_eq_true hjk
    have hrq : req ops j = !isEx o := by unfold req; rw [h0]
    have hst : ∃ v, Yr P ops C o v a ∧ (req ops j = false → Yields P ops o v a) ∧ wpFr P ops C (fun a' => ∀ g, n ≤ g → (f = 0 → Region.ready md ops ((lst l.length (j + 1) (listed.setIfInBounds j true)).setIfInBounds k true) = []) ∧ ∀ w, Jr C n Z (some g) w → wpAny P md ops Q f ((lst l.length (j + 1) (listed.setIfInBounds j true)).setIfInBounds k true) (a'.put ((ops[k]?).bind (·.dst)) (.pointer (some ⟨g, 0, none⟩))) w) l (a.put o.dst v) := by
      unfold wpFr at h
      split at h
      · rename_i c
        split at h
        · rename_i d
          obtain ⟨v, h1, h2⟩ := h
          exact ⟨v, .inl ⟨c, fun w _ => by unfold Oper.quietAt; rw [h1]; exact ⟨rfl, rfl⟩⟩, fun _ => .inl ⟨c, h1⟩, h2⟩
        · rename_i d
          obtain ⟨v, h1, h2⟩ := h
          exact ⟨v, .inl ⟨c, h1⟩, fun e => (by rw [hrq] at e; simp at e; exact absurd e d), h2⟩
      · rename_i c
        have c' : Region.wanted o (yielded ops a.tmps) = false := by simpa using c
        exact ⟨undef, .inr ⟨c', rfl⟩, fun _ => .inr ⟨c', rfl⟩, h⟩
    obtain ⟨v, hy, hyp, hK⟩ := hst
    have hr' : j ∈ Region.ready md ops listed := by simpa using hr
    rw [show (o :: l).length + (f + 1) = (l.length + (f + 1)) + 1 by simp only [List.length_cons]; omega]
    exact wpAnyF_first h0 (by omega) (by omega) (Region.noSelect_spec hs) hQ (fun hq => waits_spec hw (by omega) hq) (fun hq => ancB_spec ha (by omega) (by omega) hq) _ listed none a hcl (Region.free_spec h0 hf) hr' hy hyp
      (anyF_lex hQ hs hw ha f l (j + 1) _ _ (hcl.set hr') (fun t ht => by have := hl (t + 1) (by simpa using ht); simpa [Nat.add_assoc, Nat.add_comm 1 t] using this) hB' hK hks)
theorem any_single {Q : Exit → Act → World → Prop} : ∀ (l : List Oper) (j : Nat) (listed : Array Bool) (a : Act) (w : World), (∀ t, l[t]? = ops[j + t]?) → singles md ops l.length j listed = true → wpList P ops Q l a w → wpAny P md ops Q l.length listed a w
  | [], j, listed, a, w, _, hB, h => ⟨by simpa [singles] using hB, h⟩
  | o :: l, j, listed, a, w, hl, hB, h => by
    have h0 : ops[j]? = some o := by simpa using (hl 0).symm
    simp only [List.length_cons, singles, Bool.and_eq_true, beq_iff_eq] at hB
    have hr := hB.1
    have hB' := hB.2
    show wpAny P md ops Q (l.length + 1) listed a w
    refine ⟨fun e => (by rw [hr] at e; cases e), fun i hi => ?_⟩
    rw [hr] at hi
    obtain rfl : i = j := by simpa using hi
    have ih := fun a' w' => any_single (Q := Q) l (i + 1) (listed.setIfInBounds i true) a' w' (fun t => by have := hl (t + 1); simpa [Nat.add_assoc, Nat.add_comm 1 t] using this) hB'
    unfold wpOp
    rw [h0]
    simp only
    unfold wpList at h
    split
    · rename_i c
      rw [if_pos c] at h
      rcases h with h | h
      · exact .inl (Oper.wp_mono (fun a w => ih a w) h)
      · exact .inr h
    · rename_i c
      rw [if_neg c] at h
      exact ih _ _ h
/-- the Bool over a region, whole -/
def freshB (ops : Array Oper) (k : Nat) : Bool := Region.noSelect ops && waits .any ops (k + 1) && ancB .any ops k (k + 1) && decide (k < ops.size) && lexP .any ops k k 0 (Array.replicate ops.size false) && singles .any ops (ops.size - (k + 1)) (k + 1) ((lst k 0 (Array.replicate ops.size false)).setIfInBounds k true)
/-- ONE WALK OF THE LEXICAL ORDER SERVES EVERY ORDER, also where a new box is made beside calls -/
theorem wp_region_fresh {id : Nat} {Q : Exit → Act → World → Prop} {a : Act} {w : World} (k : Nat) (Z : Obj) (hm : P.follows .mixedOrders = true) (hB : freshB ops k = true)
    (hal : ∀ o, ops[k]? = some o → o.guard = none ∧ ∀ ev w, (execOp ev o).run P w = .ok (.value (.pointer (some ⟨w.heap.size, 0, none⟩))) (w.alloc Z))
    (h : wpFr P ops (fun w' => Below w.heap.size w w') (fun a' => ∀ g w', w.heap.size ≤ g → Below w.heap.size w w' → w'.heap[g]? = some Z → wpList P ops (Exit.then (fun a w => Q .normal a w) (fun _ _ _ => False)) (ops.toList.drop (k + 1)) (a'.put ((ops[k]?).bind (·.dst)) (.pointer (some ⟨g, 0, none⟩))) w') (ops.toList.take k) a) : (Code.region id ops true).wp P Q a w := by
  simp only [freshB, Bool.and_eq_true] at hB
  obtain ⟨⟨⟨⟨⟨hs, hw⟩, ha⟩, hk⟩, hl⟩, hsi⟩ := hB
  have hk : k < ops.size := of_decide_eq_true hk
  refine Code.wp_mono (Q := Exit.then (fun a w => Q .normal a w) (fun _ _ _ => False)) (fun e a w h => ?_) ?_
  · cases e with
    | normal => exact h
    | _ => exact False.elim h
  refine wp_region_any hm ?_
  have hl1 : (ops.toList.take k).length = k := by simp; omega
  have hl2 : (ops.toList.drop (k + 1)).length = ops.size - (k + 1) := by simp
  have key := anyF_lex (P := P) (md := .any) (C := fun w' => Below w.heap.size w w') (n := w.heap.size) (Z := Z) (Q := Exit.then (fun a w => Q .normal a w) (fun _ _ _ => False)) (fun c a w h => h) hs hw ha (ops.size - (k + 1)) (ops.toList.take k) 0 (Array.replicate ops.size false) a
    (fun j oj _ h => by
      exfalso
      rw [Array.getD_eq_getD_getElem?, Array.getElem?_replicate] at h
      split at h <;> cases h) (fun t ht => by rw [hl1] at ht; simp [ht]) (by rw [hl1]; exact hl) ?_ hk
  · have hsz : (ops.toList.take k).length + (ops.size - (k + 1) + 1) = ops.size := by rw [hl1]; omega
    rw [hsz] at key
    exact any_of_F hal (fun a b h1 h2 => h1.trans (h2.mono h1.size)) (fun a h => h.size) (fun f listed γ a w' hJ hR => hR.2 w' hJ) ops.size _ none a _ ⟨(Below.refl _ _).drew, fun g hg => by cases hg⟩ key
  · have mono : ∀ (l : List Oper) (a : Act) (A B : Act → Prop), (∀ a, A a → B a) → wpFr P ops (fun w' => Below w.heap.size w w') A l a → wpFr P ops (fun w' => Below w.heap.size w w') B l a := by
      intro l
      induction l with
      | nil => intro a A B hAB hA; exact hAB _ hA
      | cons o l ih =>
        intro a A B hAB hA
        unfold wpFr at hA ⊢
        split
        · rename_i c
          rw [if_pos c] at hA
          split
          · rename_i d; rw [if_pos d] at hA; obtain ⟨v, h1, h2⟩ := hA; exact ⟨v, h1, ih _ _ _ hAB h2⟩
          · rename_i d; rw [if_neg d] at hA; obtain ⟨v, h1, h2⟩ := hA; exact ⟨v, h1, ih _ _ _ hAB h2⟩
        · rename_i c; rw [if_neg c] at hA; exact ih _ _ _ hAB hA
    refine mono _ _ _ _ (fun a' ha' g hg => ?_) h
    rw [hl1, ← hl2]
    refine ⟨fun e => ?_, fun w' hJ => any_single (ops.toList.drop (k + 1)) (k + 1) _ _ _ (fun t => by simp) (by rw [hl2]; exact hsi) (ha' g w' hg hJ.1 (hJ.2 g rfl).2)⟩
    rw [hl2] at e
    rw [e] at hsi
    simpa [singles] using hsi
theorem fr_step {Q : Act → Prop} {a : Act} {o : Oper} {rest : List Oper} (hx : isEx o = false)
    (h : ∀ K : Act → Prop, (∀ a, QW (wpFr P ops C Q rest a) → K a) → if Region.wanted o (yielded ops a.tmps) then ∃ v, (∀ w, C w → o.quietAt P a (fun w'' => Below w.heap.size w w'') w v) ∧ K (a.put o.dst v) else K (a.put o.dst undef)) : QW (wpFr P ops C Q (o :: rest) a) := by
  refine ⟨?_⟩
  unfold wpFr
  rw [hx]
  exact h (wpFr P ops C Q rest) (fun a q => q.out)
theorem fr_ex {Q : Act → Prop} {a : Act} {o : Oper} {rest : List Oper} (hx : isEx o = true)
    (h : ∀ K : Act → Prop, (∀ a, QW (wpFr P ops C Q rest a) → K a) → if Region.wanted o (yielded ops a.tmps) then ∃ v, (∀ w, (execOp a.eval o).run P w = .ok (.value v) w) ∧ K (a.put o.dst v) else K (a.put o.dst undef)) : QW (wpFr P ops C Q (o :: rest) a) := by
  refine ⟨?_⟩
  unfold wpFr
  rw [hx]
  exact h (wpFr P ops C Q rest) (fun a q => q.out)
theorem fr_nil {Q : Act → Prop} {a : Act} (h : Q a) : QW (wpFr P ops C Q [] a) := ⟨h⟩
end
end Go.Proofs.Ytcplbpnpcmgjfaa
