/- A symbolic run of Go code: a region in any order does what it does in the text's. -/
import Derived.Test.YtpkckgdpdnkbeaaZq
namespace Go.Proofs.Ytpkckgdpdnkbeaa
open Go.RowKit
/-- what those of a set have done, in the text's order -/
def foldA (f : Nat → Bool) : Nat → List Oper → List Rc → ASt → ASt
  | j, o :: l, r :: lr, S => foldA f (j + 1) l lr (bif f j then S.app o r else S)
  | _, _, _, S => S
theorem putO_len (S : List (Option Value)) (d : Option Tmp) (v : Value) : (putO S d v).length = S.length := by cases d <;> simp [putO, setO_len]
theorem putO_at {S : List (Option Value)} {d : Option Tmp} {v : Value} {t : Tmp} (h : d ≠ some t) : nthO (putO S d v) t = nthO S t := by
  cases d with
  | none => rfl
  | some d =>
    simp only [putO, nthO_set]
    rw [if_neg (fun hc => h (by rw [hc.1]))]
theorem Rc.heap_len (r : Rc) (H : List AObj) : (Rc.heap r H).length = H.length := by
  rcases r with _ | ⟨v, e⟩
  · rfl
  · exact effH_len e H
theorem effH_at : ∀ (e : Eff) (H : List AObj) {i : Nat}, i ∉ effIds e → (effH H e)[i]? = H[i]?
  | [], _, _, _ => rfl
  | (j, o) :: e, H, i, h => by
    simp only [effIds, List.mem_cons, not_or] at h
    rw [effH, effH_at e _ h.2, setL_eq, List.getElem?_set_ne (Ne.symm h.1)]
theorem effH_same : ∀ (e : Eff) (S T : List AObj) (i : Nat), S.length = T.length → S[i]? = T[i]? → (effH S e)[i]? = (effH T e)[i]?
  | [], _, _, _, _, h => h
  | (j, o) :: e, S, T, i, hl, h => by
    rw [effH, effH]
    refine effH_same e _ _ i (by simp [setL_eq, hl]) ?_
    rw [setL_eq, setL_eq, List.getElem?_set, List.getElem?_set, hl, h]
theorem effH_set : ∀ (e : Eff) (H : List AObj) (i : Nat) (o : AObj), i ∉ effIds e → effH (setL H i o) e = setL (effH H e) i o
  | [], _, _, _, _ => rfl
  | (j, p) :: e, H, i, o, h => by
    simp only [effIds, List.mem_cons, not_or] at h
    rw [effH, effH, ← effH_set e _ i o h.2]
    congr 1
    rw [setL_eq, setL_eq, setL_eq, setL_eq]
    exact List.set_comm _ _ h.1
theorem effH_comm : ∀ (e f : Eff) (H : List AObj), (∀ i ∈ effIds e, i ∉ effIds f) → effH (effH H e) f = effH (effH H f) e
  | [], _, _, _ => rfl
  | (j, o) :: e, f, H, h => by
    simp only [effIds, List.mem_cons] at h
    rw [effH, effH_comm e f _ fun i hi => h i (.inr hi), effH_set f _ _ _ (h j (.inl rfl)), effH]
theorem Rc.heap_at {r : Rc} {H : List AObj} {e : Nat} (h : e ∉ Rc.ids r) : (Rc.heap r H)[e]? = H[e]? := by
  rcases r with _ | ⟨v, x⟩
  · rfl
  · exact effH_at x H h
theorem foldA_len (f : Nat → Bool) : ∀ (l : List Oper) (lr : List Rc) (j : Nat) (S : ASt), (foldA f j l lr S).slots.length = S.slots.length ∧ (foldA f j l lr S).heap.length = S.heap.length
  | [], _, _, _ => ⟨rfl, rfl⟩
  | _ :: _, [], _, _ => ⟨rfl, rfl⟩
  | o :: l, r :: lr, j, S => by
    obtain ⟨h1, h2⟩ := foldA_len f l lr (j + 1) (bif f j then S.app o r else S)
    unfold foldA
    rw [h1, h2]
    cases f j
    · exact ⟨rfl, rfl⟩
    · exact ⟨putO_len _ _ _, Rc.heap_len _ _⟩
/-- what a slot holds hangs on those that write it -/
theorem lookS {f g : Nat → Bool} {t : Tmp} : ∀ (l : List Oper) (lr : List Rc) (j : Nat) (S T : ASt), l.length = lr.length → S.slots.length = T.slots.length → nthO S.slots t = nthO T.slots t →
    (∀ q o, l[q]? = some o → f (j + q) ≠ g (j + q) → o.dst ≠ some t) → nthO (foldA f j l lr S).slots t = nthO (foldA g j l lr T).slots t
  | [], _, _, _, _, _, _, h, _ => h
  | _ :: _, [], _, _, _, hl, _, _, _ => by simp at hl
  | o :: l, r :: lr, j, S, T, hl, hlen, h, hd => by
    unfold foldA
    have ht := fun q o' ho' => hd (q + 1) o' (by simpa using ho')
    have h0 := hd 0 o (by simp)
    refine lookS l lr (j + 1) _ _ (by simpa using hl) ?_ ?_ (fun q o' ho' hne => ht q o' ho' (by rw [show j + (q + 1) = j + 1 + q by omega]; exact hne))
    · cases f j <;> cases g j <;> simp [ASt.app, putO_len, hlen]
    · rw [Nat.add_zero] at h0
      cases hf : f j <;> cases hg : g j
      · exact h
      · have := h0 (by rw [hf, hg]; decide)
        show nthO S.slots t = nthO (putO T.slots o.dst _) t
        rw [putO_at this, h]
      · have := h0 (by rw [hf, hg]; decide)
        show nthO (putO S.slots o.dst _) t = nthO T.slots t
        rw [putO_at this, h]
      · show nthO (putO S.slots o.dst _) t = nthO (putO T.slots o.dst _) t
        cases o.dst with
        | none => exact h
        | some d => simp only [putO, nthO_set, hlen, h]
theorem lookH {f g : Nat → Bool} {e : Nat} : ∀ (l : List Oper) (lr : List Rc) (j : Nat) (S T : ASt), l.length = lr.length → S.heap.length = T.heap.length → S.heap[e]? = T.heap[e]? →
    (∀ q r, lr[q]? = some r → f (j + q) ≠ g (j + q) → e ∉ Rc.ids r) → (foldA f j l lr S).heap[e]? = (foldA g j l lr T).heap[e]?
  | [], _, _, _, _, _, _, h, _ => h
  | _ :: _, [], _, _, _, hl, _, _, _ => by simp at hl
  | o :: l, r :: lr, j, S, T, hl, hlen, h, hd => by
    unfold foldA
    have ht := fun q r' hr' => hd (q + 1) r' (by simpa using hr')
    have h0 := hd 0 r (by simp)
    refine lookH l lr (j + 1) _ _ (by simpa using hl) ?_ ?_ (fun q r' hr' hne => ht q r' hr' (by rw [show j + (q + 1) = j + 1 + q by omega]; exact hne))
    · cases f j <;> cases g j <;> simp [ASt.app, Rc.heap_len, hlen]
    · rw [Nat.add_zero] at h0
      have hboth : (Rc.heap r S.heap)[e]? = (Rc.heap r T.heap)[e]? := by
        rcases r with _ | ⟨v, x⟩
        · exact h
        · exact effH_same x _ _ e hlen h
      cases hf : f j <;> cases hg : g j
      · exact h
      · have := h0 (by rw [hf, hg]; decide)
        show S.heap[e]? = (Rc.heap r T.heap)[e]?
        rw [Rc.heap_at this, h]
      · have := h0 (by rw [hf, hg]; decide)
        show (Rc.heap r S.heap)[e]? = T.heap[e]?
        rw [Rc.heap_at this, h]
      · exact hboth
theorem setO_comm {α : Type} : ∀ (l : List (Option α)) (i j : Nat) (v u : α), i ≠ j → setO (setO l i v) j u = setO (setO l j u) i v
  | [], _, _, _, _, _ => rfl
  | _ :: _, 0, 0, _, _, h => absurd rfl h
  | _ :: _, 0, j + 1, _, _, _ => rfl
  | _ :: _, i + 1, 0, _, _, _ => rfl
  | x :: l, i + 1, j + 1, v, u, h => by simp only [setO]; rw [setO_comm l i j v u (by omega)]
theorem app_comm {S : ASt} {o p : Oper} {r s : Rc} (hd : ∀ d, o.dst = some d → p.dst ≠ some d) (he : ∀ e ∈ Rc.ids r, e ∉ Rc.ids s) : (S.app o r).app p s = (S.app p s).app o r := by
  unfold ASt.app
  congr 1
  · cases ho : o.dst with
    | none => rfl
    | some d => cases hp : p.dst with
      | none => rfl
      | some d' => exact setO_comm _ _ _ _ _ (fun e => hd d ho (by rw [hp, e]))
  · rcases r with _ | ⟨v, x⟩
    · rfl
    rcases s with _ | ⟨u, y⟩
    · rfl
    exact effH_comm x y _ he
/-- one more of the set: as if it came last -/
theorem foldA_put {f : Nat → Bool} {i : Nat} : ∀ (l : List Oper) (lr : List Rc) (j : Nat) (S : ASt) {o : Oper} {r : Rc}, l.length = lr.length → j ≤ i → l[i - j]? = some o → lr[i - j]? = some r → f i = false →
    (∀ q p s, i < j + q → l[q]? = some p → lr[q]? = some s → f (j + q) = true → (∀ d, o.dst = some d → p.dst ≠ some d) ∧ ∀ e ∈ Rc.ids r, e ∉ Rc.ids s) →
    foldA (fun q => f q || Nat.beq q i) j l lr S = (foldA f j l lr S).app o r := by
  have same : ∀ (l : List Oper) (lr : List Rc) (j : Nat) (S : ASt), i < j → foldA (fun q => f q || Nat.beq q i) j l lr S = foldA f j l lr S := fun l => by
    induction l with
    | nil => intro lr j S _; rfl
    | cons p l ih =>
      intro lr j S hij
      cases lr with
      | nil => rfl
      | cons s lr =>
        unfold foldA
        have : Nat.beq j i = false := by
          cases e : Nat.beq j i with
          | false => rfl
          | true => rw [Nat.beq_eq] at e; omega
        simp only [this, Bool.or_false]
        exact ih lr (j + 1) _ (by omega)
  have move : ∀ (l : List Oper) (lr : List Rc) (j : Nat) (S : ASt) {o : Oper} {r : Rc}, l.length = lr.length → (∀ q p s, l[q]? = some p → lr[q]? = some s → f (j + q) = true → (∀ d, o.dst = some d → p.dst ≠ some d) ∧ ∀ e ∈ Rc.ids r, e ∉ Rc.ids s) →
      foldA f j l lr (S.app o r) = (foldA f j l lr S).app o r := fun l => by
    induction l with
    | nil => intro lr j S o r _ _; rfl
    | cons p l ih =>
      intro lr j S o r hl hc
      cases lr with
      | nil => simp at hl
      | cons s lr =>
        unfold foldA
        have h0 := hc 0 p s (by simp) (by simp)
        rw [Nat.add_zero] at h0
        have hr : ∀ q p' s', l[q]? = some p' → lr[q]? = some s' → f (j + 1 + q) = true → _ := fun q p' s' h1 h2 h3 => hc (q + 1) p' s' (by simpa using h1) (by simpa using h2) (by rw [show j + (q + 1) = j + 1 + q by omega]; exact h3)
        cases hf : f j with
        | false => exact ih lr (j + 1) S (by simpa using hl) hr
        | true =>
          obtain ⟨h1, h2⟩ := h0 hf
          simp only [cond_true]
          rw [app_comm h1 h2]
          exact ih lr (j + 1) _ (by simpa using hl) hr
  intro l
  induction l with
  | nil => intro lr j S o r _ _ h; simp at h
  | cons p l ih =>
    intro lr j S o r hl hij ho hr hf hc
    cases lr with
    | nil => simp at hl
    | cons s lr =>
      unfold foldA
      by_cases e : i = j
      · subst e
        simp at ho hr
        subst ho; subst hr
        have hb : Nat.beq i i = true := by rw [Nat.beq_eq]
        simp only [hf, hb, Bool.or_true, cond_true, cond_false]
        rw [same l lr (i + 1) _ (by omega)]
        exact move l lr (i + 1) S (by simpa using hl) fun q p' s' h1 h2 h3 => hc (q + 1) p' s' (by omega) (by simpa using h1) (by simpa using h2) (by rw [show i + (q + 1) = i + 1 + q by omega]; exact h3)
      · have hb : Nat.beq j i = false := by
          cases e' : Nat.beq j i with
          | false => rfl
          | true => rw [Nat.beq_eq] at e'; omega
        simp only [hb, Bool.or_false]
        have e1 : i - j = (i - (j + 1)) + 1 := by omega
        rw [e1] at ho hr
        exact ih lr (j + 1) _ (by simpa using hl) (by omega) (by simpa using ho) (by simpa using hr) hf fun q p' s' h1 h2 h3 h4 => hc (q + 1) p' s' (by omega) (by simpa using h2) (by simpa using h3) (by rw [show j + (q + 1) = j + 1 + q by omega]; exact h4)
/-- is an operation wanted, by what the slots say? -/
def wantA (ops : List Oper) (S : ASt) (o : Oper) : Option Bool :=
  match o.guard with
  | none => some true
  | some (j, want) => (match nthL ops j with
    | some oj => (match oj.dst with
      | some t => (match nthO S.slots t with
        | some (.bool b) => some (b == want)
        | some (.tuple _) => some false
        | _ => none)
      | none => none)
    | none => none)
theorem yielded_put {ops : List Oper} {tmps : Array Value} {j : Nat} {oj : Oper} {t : Tmp} {u : Value} (hj : ops[j]? = some oj) (hd : oj.dst = some t) (hu : tmps[t]? = some u) : yielded ⟨ops⟩ tmps j = match u with | .bool b => some b | _ => none := by
  unfold yielded
  have : ((⟨ops⟩ : Array Oper)[j]?) = some oj := by simpa using hj
  rw [this]
  simp only [Option.bind_some, hd, hu]
  cases u <;> rfl
theorem wantA_ok {ops : List Oper} {S : ASt} {o : Oper} {b : Bool} {ρ : Ren} {a : Act} (h : wantA ops S o = some b) (hs : SC ρ S.slots a) : Region.wanted o (yielded ⟨ops⟩ a.tmps) = b := by
  unfold wantA at h
  split at h
  · rename_i hg; cases h; simp [Region.wanted, hg]
  · rename_i j want hg
    split at h
    · rename_i oj hj
      rw [nthL_eq] at hj
      split at h
      · rename_i t ht
        split at h
        · rename_i c hb
          cases h
          obtain ⟨u, h1, h2⟩ := hs.2.2 t _ hb
          cases h2
          have hy := yielded_put hj ht h1
          simp [Region.wanted, hg, hy]
        · rename_i vs hb
          cases h
          obtain ⟨u, h1, h2⟩ := hs.2.2 t _ hb
          cases h2
          have hy := yielded_put hj ht h1
          simp [Region.wanted, hg, hy]
        · cases h
      · cases h
    · cases h
theorem ASt.put_same {S : ASt} {t : Tmp} {v : Value} (h : nthO S.slots t = some v) : S.put (some t) v = S := by
  show (⟨setO S.slots t v, S.heap⟩ : ASt) = S
  rw [setO_same _ _ h]
theorem gtest_want {Φ : Lf} {S : ASt} {ops : List Oper} {o : Oper} {yes no : ASt → Out} (h : (gtest S ops o.guard yes no).sat Φ) : (wantA ops S o = some true ∧ (yes S).sat Φ) ∨ (wantA ops S o = some false ∧ (no S).sat Φ) := by
  unfold gtest at h
  unfold wantA
  split at h
  · rename_i hg; rw [hg]; exact .inl ⟨rfl, h⟩
  · rename_i j want hg
    rw [hg]
    split at h
    · rename_i oj hj
      simp only [hj]
      split at h
      · rename_i t ht
        simp only [ht]
        split at h
        · rename_i b hb
          simp only [hb]
          rcases tst_sat h with ⟨e, h⟩ | ⟨e, h⟩
          · subst e
            rw [ASt.put_same hb] at h
            cases want
            · exact .inr ⟨rfl, h⟩
            · exact .inl ⟨rfl, h⟩
          · subst e
            rw [ASt.put_same hb] at h
            cases want
            · exact .inl ⟨rfl, h⟩
            · exact .inr ⟨rfl, h⟩
        · rename_i vs hb
          simp only [hb]
          exact .inr ⟨by trivial, h⟩
        · exact h.elim
      · exact h.elim
    · exact h.elim
/-- what is known of an operation: it is not wanted; or it yields and does this, leaning on what it may lean on alone -/
def Fact (En : Env) (ops : List Oper) (n0 j : Nat) (o : Oper) (r : Rc) (f : Fp) (rs : List Rc) (S : ASt) : Prop :=
  match r with
  | none => wantA ops S o = some false
  | some x => wantA ops S o = some true ∧ f = foot o S ∧ ∀ (k : Value × Eff → Out) (Φ : Lf), (k x).sat Φ → (rx En o (restr ops j o rs S) (n0 + offN En ops j) k).sat Φ
theorem evAny_ok {En : Env} (hE : En.Ok) {ops : List Oper} {n0 : Nat} {Φ : Lf} {k : List Rc → List Fp → ASt → Out} : ∀ (l : List Oper) (j : Nat) (rs : List Rc) (fs : List Fp) (S : ASt), (evAny En ops n0 j l rs fs S k).sat Φ →
    ∃ lr lf, lr.length = l.length ∧ lf.length = l.length ∧ (k (rs ++ lr) (fs ++ lf) (foldA (fun _ => true) j l lr S)).sat Φ ∧ ∀ q o r f, l[q]? = some o → lr[q]? = some r → lf[q]? = some f → Fact En ops n0 (j + q) o r f (rs ++ lr.take q) (foldA (fun p => Nat.blt p (j + q)) j l lr S)
  | [], j, rs, fs, S, h => ⟨[], [], rfl, rfl, by simpa [foldA, evAny] using h, fun q o r f ho => by simp at ho⟩
  | o :: l, j, rs, fs, S, h => by
    have fin : ∀ (r : Rc) (f : Fp), Fact En ops n0 j o r f rs S → (evAny En ops n0 (j + 1) l (rs ++ [r]) (fs ++ [f]) (S.app o r) k).sat Φ → ∃ lr lf, lr.length = (o :: l).length ∧ lf.length = (o :: l).length ∧ (k (rs ++ lr) (fs ++ lf) (foldA (fun _ => true) j (o :: l) lr S)).sat Φ ∧ ∀ q o' r f, (o :: l)[q]? = some o' → lr[q]? = some r → lf[q]? = some f → Fact En ops n0 (j + q) o' r f (rs ++ lr.take q) (foldA (fun p => Nat.blt p (j + q)) j (o :: l) lr S) := fun r f hf h => by
      obtain ⟨lr, lf, h1, h1f, h2, h3⟩ := evAny_ok hE l (j + 1) _ _ _ h
      have none_yet : ∀ (l : List Oper) (lr : List Rc) (j : Nat) (S : ASt) (m : Nat), m ≤ j → foldA (fun p => Nat.blt p m) j l lr S = S := fun l => by
        induction l with
        | nil => intro lr j S m _; rfl
        | cons p l ih =>
          intro lr j S m hm
          cases lr with
          | nil => rfl
          | cons s lr =>
            unfold foldA
            have : Nat.blt j m = false := by
              cases e : Nat.blt j m with
              | false => rfl
              | true => rw [Nat.blt_eq] at e; omega
            simp only [this, cond_false]
            exact ih lr (j + 1) S m (by omega)
      refine ⟨r :: lr, f :: lf, by simp [h1], by simp [h1f], by simpa [foldA] using h2, fun q o' r' f' ho hr hff => ?_⟩
      cases q with
      | zero =>
        simp at ho hr hff
        subst ho; subst hr; subst hff
        rw [Nat.add_zero, none_yet _ _ _ _ _ (Nat.le_refl j)]
        simpa using hf
      | succ q =>
        have := h3 q o' r' f' (by simpa using ho) (by simpa using hr) (by simpa using hff)
        rw [show j + (q + 1) = j + 1 + q by omega]
        have hb : Nat.blt j (j + 1 + q) = true := by rw [Nat.blt_eq]; omega
        unfold foldA
        simp only [hb, cond_true]
        simpa using this
    unfold evAny at h
    rcases gtest_want h with ⟨hw, h⟩ | ⟨hw, h⟩
    · obtain ⟨x, h1, h2⟩ := det_rx hE _ _ _ _ _ h
      exact fin (some x) _ ⟨hw, rfl, fun k' Φ' h' => h2 k' Φ' h'⟩ h1
    · exact fin none _ hw h
end Go.Proofs.Ytpkckgdpdnkbeaa
