/- A symbolic run of Go code: A REGION WHOSE ORDER GO LEAVES OPEN IS SOUND. -/
import Derived.Test.YtpkckgdpdnkbeaaZr
namespace Go.Proofs.Ytpkckgdpdnkbeaa
open Go.RowKit
theorem catN_mem {e : Nat} : ∀ {a l : List Nat}, e ∈ catN a l ↔ e ∈ a ∨ e ∈ l
  | [], _ => by simp [catN]
  | x :: a, l => by simp [catN, catN_mem (a := a), or_assoc]
theorem goneFor_mem {deps : List Nat} {e : Nat} : ∀ {rs : List Rc} {j q : Nat} {r : Rc}, rs[q]? = some r → e ∈ Rc.ids r → j + q ∉ deps → e ∈ goneFor deps j rs
  | [], _, _, _, h, _, _ => by simp at h
  | s :: rs, j, 0, r, h, he, hn => by
    simp at h
    subst h
    unfold goneFor
    have : memN j deps = false := by
      cases hb : memN j deps with
      | false => rfl
      | true => exact absurd (memN_iff.1 hb) hn
    rw [this, cond_false]
    exact catN_mem.2 (.inl he)
  | s :: rs, j, q + 1, r, h, he, hn => by
    have ih := goneFor_mem (deps := deps) (rs := rs) (j := j + 1) (q := q) (r := r) (by simpa using h) he (by rw [show j + 1 + q = j + (q + 1) by omega]; exact hn)
    unfold goneFor
    cases memN j deps
    · exact catN_mem.2 (.inr ih)
    · exact ih
theorem inR {lo W e : Nat} : (Nat.ble lo e && Nat.blt e (lo + W)) = true ↔ lo ≤ e ∧ e < lo + W := by rw [Bool.and_eq_true, Nat.ble_eq, Nat.blt_eq]
theorem in_outs {lo W e : Nat} : ∀ {l : List Nat}, e ∈ l → (lo ≤ e ∧ e < lo + W) ∨ e ∈ outs lo W l
  | [], h => by cases h
  | x :: l, h => by
    unfold outs
    cases hb : (Nat.ble lo x && Nat.blt x (lo + W)) with
    | true =>
      rcases List.mem_cons.1 h with rfl | h
      · exact .inl (inR.1 hb)
      · exact in_outs h
    | false =>
      rcases List.mem_cons.1 h with rfl | h
      · exact .inr (List.mem_cons_self ..)
      · exact (in_outs h).imp id (List.mem_cons_of_mem _)
theorem noneIn_at {lo W e : Nat} : ∀ {l : List Nat}, noneIn lo W l = true → e ∈ l → ¬ (lo ≤ e ∧ e < lo + W)
  | [], _, h => by cases h
  | x :: l, hn, h => by
    simp only [noneIn, Bool.and_eq_true, Bool.not_eq_eq_eq_not, Bool.not_true] at hn
    rcases List.mem_cons.1 h with rfl | h
    · intro hc
      have := inR.2 hc
      rw [hn.1] at this
      cases this
    · exact noneIn_at hn.2 h
theorem apartN_at {e : Nat} {m : List Nat} : ∀ {l : List Nat}, apartN l m = true → e ∈ l → e ∉ m
  | [], _, h => by cases h
  | x :: l, hn, h => by
    simp only [apartN, Bool.and_eq_true, Bool.not_eq_eq_eq_not, Bool.not_true] at hn
    rcases List.mem_cons.1 h with rfl | h
    · intro hc
      have := memN_iff.2 hc
      rw [hn.1] at this
      cases this
    · exact apartN_at hn.2 h
theorem apartF_at {e : Nat} {l : List Nat} {F : Fp} (h : apartF l F = true) (he : e ∈ l) : seen F e = false := by
  cases F with
  | none => cases h
  | some m =>
    have := apartN_at h he
    show memN e m = false
    cases hb : memN e m with
    | false => rfl
    | true => exact absurd (memN_iff.1 hb) this
theorem pair_outs {En : Env} {ops : List Oper} {n0 q e : Nat} {oi oq : Oper} {ri rq : Rc} {fi : Fp} (h : okPair En ops n0 q oi oq ri rq fi = true) (he : e ∈ outs (n0 + offN En ops q) (wdN En ops q) (Rc.ids rq)) : seen fi e = false ∧ e ∉ Rc.ids ri := by
  simp only [okPair, Bool.and_eq_true] at h
  have h2 := h.2
  split at h2
  · rename_i hn; rw [hn] at he; cases he
  · rw [Bool.and_eq_true] at h2
    exact ⟨apartF_at h2.1 he, apartN_at h2.2 he⟩
theorem pair_slot {En : Env} {ops : List Oper} {n0 q : Nat} {oi oq : Oper} {ri rq : Rc} {fi : Fp} (h : okPair En ops n0 q oi oq ri rq fi = true) {d : Tmp} (hd : oq.dst = some d) : memN d (oi.looksAt ⟨ops⟩) = false ∧ oi.dst ≠ some d := by
  simp only [okPair, hd, Bool.and_eq_true, Bool.not_eq_eq_eq_not, Bool.not_true] at h
  refine ⟨h.1.1, fun e => ?_⟩
  have := h.1.2
  rw [e] at this
  simp at this
theorem set_outs {En : Env} {ops : List Oper} {deps : List Nat} {n0 i q e : Nat} {rq : Rc} (h : okSet En ops deps n0 i q rq = true) (he : e ∈ outs (n0 + offN En ops q) (wdN En ops q) (Rc.ids rq)) (hr : n0 + offN En ops i ≤ e ∧ e < n0 + offN En ops i + wdN En ops i) : i ∈ deps := by
  simp only [okSet, Bool.or_eq_true] at h
  rcases h with h | h
  · exact absurd hr (noneIn_at h he)
  · exact memN_iff.1 h
theorem range_ne {En : Env} {ops : List Oper} {n0 i q e : Nat} (hne : i ≠ q) (h1 : n0 + offN En ops i ≤ e ∧ e < n0 + offN En ops i + wdN En ops i) (h2 : n0 + offN En ops q ≤ e ∧ e < n0 + offN En ops q + wdN En ops q) : False := by
  rcases Nat.lt_or_ge i q with h | h
  · have := off_step En ops i q h
    omega
  · have := off_step En ops q i (by omega)
    omega
theorem fwd_at : ∀ {l : List Oper} {j q : Nat} {o : Oper}, fwd j l = true → l[q]? = some o → ∀ d ∈ direct o, d < j + q
  | [], _, _, _, _, h => by simp at h
  | x :: l, j, 0, o, h, e => by
    simp at e
    subst e
    simp only [fwd, Bool.and_eq_true, List.all_eq_true] at h
    intro d hd
    have := h.1.1 d hd
    rw [Nat.blt_eq] at this
    omega
  | x :: l, j, q + 1, o, h, e => by
    simp only [fwd, Bool.and_eq_true] at h
    intro d hd
    have := fwd_at h.2 (by simpa using e) d hd
    omega
theorem mem_addN {t x : Nat} {l : List Nat} (h : x ∈ addN t l) : x = t ∨ x ∈ l := by
  unfold addN at h
  cases hb : memN t l with
  | false => rw [hb] at h; exact List.mem_cons.1 h
  | true => rw [hb] at h; exact .inr h
theorem mem_mergeN {x : Nat} {b : List Nat} : ∀ {a : List Nat}, x ∈ mergeN a b → x ∈ a ∨ x ∈ b
  | [], h => .inr h
  | y :: a, h => by
    rcases mem_addN h with rfl | h
    · exact .inl (List.mem_cons_self ..)
    · rcases mem_mergeN h with h | h
      · exact .inl (List.mem_cons_of_mem _ h)
      · exact .inr h
theorem mem_uniN {x : Nat} {acc : List (List Nat)} : ∀ {ds : List Nat}, x ∈ uniN acc ds → ∃ d ∈ ds, x = d ∨ ∃ l, acc[d]? = some l ∧ x ∈ l
  | [], h => by cases h
  | d :: ds, h => by
    rcases mem_addN h with rfl | h
    · exact ⟨x, List.mem_cons_self .., .inl rfl⟩
    · rcases mem_mergeN h with h | h
      · rw [nthL_eq] at h
        cases e : acc[d]? with
        | none => rw [e] at h; cases h
        | some l => rw [e] at h; exact ⟨d, List.mem_cons_self .., .inr ⟨l, e, h⟩⟩
      · obtain ⟨d', h1, h2⟩ := mem_uniN h
        exact ⟨d', List.mem_cons_of_mem _ h1, h2⟩
def Closed (ops : List Oper) (f : Nat → Bool) : Prop := ∀ q o, f q = true → ops[q]? = some o → ∀ d ∈ direct o, f d = true
theorem depTab_ok {ops : List Oper} (hf : fwd 0 ops = true) : ∀ (l : List Oper) (acc : List (List Nat)), (∀ q, l[q]? = ops[acc.length + q]?) →
    (∀ i ds o, acc[i]? = some ds → ops[i]? = some o → ∀ d ∈ ds, d < i ∧ ∀ f, Closed ops f → (∀ d' ∈ direct o, f d' = true) → f d = true) →
    ∀ i ds o, (depTab acc l)[i]? = some ds → ops[i]? = some o → ∀ d ∈ ds, d < i ∧ ∀ f, Closed ops f → (∀ d' ∈ direct o, f d' = true) → f d = true
  | [], acc, _, h => h
  | p :: l, acc, hl, h => by
    have hp : ops[acc.length]? = some p := by have := hl 0; simpa using this.symm
    refine depTab_ok hf l _ (fun q => by have := hl (q + 1); simp only [List.getElem?_cons_succ] at this; rw [this]; congr 1; simp; omega) fun i ds o hi ho d hd => ?_
    rw [List.getElem?_append] at hi
    split at hi
    · exact h i ds o hi ho d hd
    · have e : i = acc.length := by
        rcases Nat.lt_or_ge acc.length i with hlt | hge
        · rw [List.getElem?_eq_none (by simp; omega)] at hi; cases hi
        · omega
      subst e
      simp at hi
      subst hi
      rw [hp] at ho
      cases ho
      obtain ⟨d', h1, h2⟩ := mem_uniN hd
      have hlt := fwd_at hf hp d' h1
      rw [Nat.zero_add] at hlt
      rcases h2 with rfl | ⟨ds', h3, h4⟩
      · exact ⟨hlt, fun f _ hd' => hd' _ h1⟩
      · have hlen : d' < ops.length := by
          have := (List.getElem?_eq_some_iff.1 hp).1
          omega
        have ho' : ops[d']? = some ops[d'] := List.getElem?_eq_getElem hlen
        obtain ⟨g1, g2⟩ := h d' ds' _ h3 ho' d h4
        exact ⟨by omega, fun f hc hd' => g2 f hc (hc d' _ (hd' d' h1) ho')⟩
theorem depN_ok {ops : List Oper} (hf : fwd 0 ops = true) {i : Nat} {o : Oper} (ho : ops[i]? = some o) {d : Nat} (hd : d ∈ depN ops i) : d < i ∧ ∀ f, Closed ops f → (∀ d' ∈ direct o, f d' = true) → f d = true := by
  unfold depN at hd
  rw [nthL_eq] at hd
  cases e : (depTab [] ops)[i]? with
  | none => rw [e] at hd; cases hd
  | some ds =>
    rw [e] at hd
    exact depTab_ok hf ops [] (fun q => by simp) (fun i ds o h => by simp at h) i ds o e ho d hd
theorem okRow_at {En : Env} {ops : List Oper} {n0 i : Nat} {oi : Oper} {ri : Rc} {fi : Fp} : ∀ {l : List Oper} {lr : List Rc} {q0 q : Nat} {oq : Oper} {rq : Rc}, okRow En ops n0 i oi ri fi q0 l lr = true → l[q]? = some oq → lr[q]? = some rq →
    (q0 + q = i ∨ q0 + q ∈ depN ops i ∨ i ∈ depN ops (q0 + q) ∨ okPair En ops n0 (q0 + q) oi oq ri rq fi = true) ∧ okSet En ops (depN ops (q0 + q)) n0 i (q0 + q) rq = true
  | [], _, _, _, _, _, _, h, _ => by simp at h
  | _ :: _, [], _, _, _, _, _, _, h => by simp at h
  | o :: l, r :: lr, q0, 0, oq, rq, h, ho, hr => by
    simp at ho hr
    subst ho; subst hr
    simp only [okRow, Bool.and_eq_true, Bool.or_eq_true, Nat.beq_eq, memN_iff] at h
    rw [Nat.add_zero]
    refine ⟨?_, h.1.2⟩
    rcases h.1.1 with ((h | h) | h) | h
    · exact .inl h
    · exact .inr (.inl h)
    · exact .inr (.inr (.inl h))
    · exact .inr (.inr (.inr h))
  | o :: l, r :: lr, q0, q + 1, oq, rq, h, ho, hr => by
    simp only [okRow, Bool.and_eq_true] at h
    have := okRow_at h.2 (by simpa using ho) (by simpa using hr)
    rw [show q0 + (q + 1) = q0 + 1 + q by omega]
    exact this
theorem okAll_at {En : Env} {ops : List Oper} {n0 : Nat} {rs : List Rc} : ∀ {l : List Oper} {lr : List Rc} {lf : List Fp} {i0 i : Nat} {oi : Oper} {ri : Rc} {fi : Fp}, okAll En ops n0 rs i0 l lr lf = true → l[i]? = some oi → lr[i]? = some ri → lf[i]? = some fi → okRow En ops n0 (i0 + i) oi ri fi 0 ops rs = true
  | [], _, _, _, _, _, _, _, _, h, _, _ => by simp at h
  | _ :: _, [], _, _, _, _, _, _, _, _, h, _ => by simp at h
  | _ :: _, _ :: _, [], _, _, _, _, _, _, _, _, h => by simp at h
  | o :: l, r :: lr, f :: lf, i0, 0, oi, ri, fi, h, ho, hr, hf => by
    simp at ho hr hf
    subst ho; subst hr; subst hf
    simp only [okAll, Bool.and_eq_true] at h
    exact h.1
  | o :: l, r :: lr, f :: lf, i0, i + 1, oi, ri, fi, h, ho, hr, hf => by
    simp only [okAll, Bool.and_eq_true] at h
    have := okAll_at h.2 (by simpa using ho) (by simpa using hr) (by simpa using hf)
    rw [show i0 + (i + 1) = i0 + 1 + i by omega]
    exact this
theorem foldA_congr {f g : Nat → Bool} : ∀ (l : List Oper) (lr : List Rc) (j : Nat) (S : ASt), (∀ q, q < l.length → f (j + q) = g (j + q)) → foldA f j l lr S = foldA g j l lr S
  | [], _, _, _, _ => rfl
  | _ :: _, [], _, _, _ => rfl
  | o :: l, r :: lr, j, S, h => by
    unfold foldA
    have h0 := h 0 (by simp)
    rw [Nat.add_zero] at h0
    rw [h0]
    exact foldA_congr l lr (j + 1) _ fun q hq => by have := h (q + 1) (by simpa using hq); rw [show j + (q + 1) = j + 1 + q by omega] at this; exact this
theorem wantA_congr {ops : List Oper} {S T : ASt} {o : Oper} (h : ∀ t ∈ o.looksAt ⟨ops⟩, nthO S.slots t = nthO T.slots t) : wantA ops S o = wantA ops T o := by
  unfold wantA
  split
  · rfl
  · rename_i j want hg
    split
    · rename_i oj hj
      rw [nthL_eq] at hj
      split
      · rename_i t ht
        have hm : t ∈ o.looksAt ⟨ops⟩ := by
          unfold Oper.looksAt
          have hj' : ((⟨ops⟩ : Array Oper)[j]?) = some oj := by simpa using hj
          rw [hg]
          simp only [hj', Option.bind_some, ht]
          simp
        rw [h t hm]
      · rfl
    · rfl
theorem cnt_put {f : Nat → Bool} {i : Nat} (hf : f i = false) : ∀ n, i < n → (List.range n).countP (fun q => !f q) = (List.range n).countP (fun q => !(f q || Nat.beq q i)) + 1
  | 0, h => by omega
  | n + 1, h => by
    rw [List.range_succ, List.countP_append, List.countP_append]
    by_cases e : i = n
    · subst e
      have hs : (List.range i).countP (fun q => !f q) = (List.range i).countP (fun q => !(f q || Nat.beq q i)) := List.countP_congr fun q hq => by
        have : Nat.beq q i = false := by
          cases e' : Nat.beq q i with
          | false => rfl
          | true => rw [Nat.beq_eq] at e'; rw [List.mem_range] at hq; omega
        simp [this]
      simp [hf, hs]
    · have hb : Nat.beq n i = false := by
        cases e' : Nat.beq n i with
        | false => rfl
        | true => rw [Nat.beq_eq] at e'; omega
      have := cnt_put hf n (by omega)
      simp only [List.countP_cons, List.countP_nil, hb, Bool.or_false]
      omega
theorem cnt_zero {f : Nat → Bool} {n : Nat} (h : (List.range n).countP (fun q => !f q) = 0) : ∀ q, q < n → f q = true := fun q hq => by
  rw [List.countP_eq_zero] at h
  have := h q (List.mem_range.2 hq)
  simpa using this
/-- THE OPERATIONS OF A REGION IN WHATEVER ORDER. -/
theorem any_ok {En : Env} (hE : En.Ok) {ops : List Oper} {S : ASt} {k : ASt → Out} {Φ : Lf} {base : Nat} {w0 : World} {ρ0 : Ren} {a0 : Act} {w1 : World} {Q : Exit → Act → World → Prop} (h : (evReg En ops S k).sat Φ) (hs0 : SC ρ0 S.slots a0) (hc0 : HC base w0 ρ0 S.heap w1)
    (hq : ∀ S' ρ' a' w', (k S').sat Φ → SC ρ' S'.slots a' → HC base w0 ρ' S'.heap w' → RLe ρ0 ρ' → Q .normal a' w') : wpAny En.P .any ⟨ops⟩ Q ops.length (Array.replicate ops.length false) a0 w1 := by
  unfold evReg at h
  split at h
  · rename_i hfwd
    obtain ⟨lr, lf, hlr, hlf, hk, hfact⟩ := evAny_ok hE ops 0 [] [] _ h
    simp only [List.nil_append] at hk hfact
    split at hk
    · rename_i hall
      generalize hS0 : (⟨S.slots, S.heap ++ goneL (offN En ops ops.length)⟩ : ASt) = S0 at hk hfact
      have hS0s : S0.slots = S.slots := by rw [← hS0]
      have hS0h : S0.heap = S.heap ++ goneL (offN En ops ops.length) := by rw [← hS0]
      generalize hn0 : S.heap.length = n0 at *
      have hrow : ∀ {i q oi ri fi oq rq}, ops[i]? = some oi → lr[i]? = some ri → lf[i]? = some fi → ops[q]? = some oq → lr[q]? = some rq → (q = i ∨ q ∈ depN ops i ∨ i ∈ depN ops q ∨ okPair En ops n0 q oi oq ri rq fi = true) ∧ okSet En ops (depN ops q) n0 i q rq = true := fun {i q oi ri fi oq rq} h1 h2 h2f h3 h4 => by
        have e1 := okAll_at (i0 := 0) hall h1 h2 h2f
        rw [Nat.zero_add] at e1
        have e2 := okRow_at (q0 := 0) e1 h3 h4
        rw [Nat.zero_add] at e2
        exact e2
      have hrid : ∀ {q rq e}, e ∈ Rc.ids rq → (n0 + offN En ops q ≤ e ∧ e < n0 + offN En ops q + wdN En ops q) ∨ e ∈ outs (n0 + offN En ops q) (wdN En ops q) (Rc.ids rq) := fun {q rq e} h => in_outs h
      have main : ∀ (fuel : Nat) (listed : Array Bool) (a : Act) (w : World), listed.size = ops.length → (List.range ops.length).countP (fun q => !(listed.getD q false)) ≤ fuel → (∀ q o, listed.getD q false = true → ops[q]? = some o → ∀ d ∈ direct o, listed.getD d false = true) →
          (∃ ρ, SC ρ (foldA (fun q => listed.getD q false) 0 ops lr S0).slots a ∧ HC base w0 ρ (foldA (fun q => listed.getD q false) 0 ops lr S0).heap w ∧ RLe ρ0 ρ ∧ ∀ q, q < ops.length → listed.getD q false = false → ∀ t, t < wdN En ops q → ρ (n0 + offN En ops q + t) = none) → wpAny En.P .any ⟨ops⟩ Q fuel listed a w := by
        intro fuel
        have done : ∀ (listed : Array Bool) (a : Act) (w : World), (∀ q, q < ops.length → listed.getD q false = true) → (∃ ρ, SC ρ (foldA (fun q => listed.getD q false) 0 ops lr S0).slots a ∧ HC base w0 ρ (foldA (fun q => listed.getD q false) 0 ops lr S0).heap w ∧ RLe ρ0 ρ ∧ ∀ q, q < ops.length → listed.getD q false = false → ∀ t, t < wdN En ops q → ρ (n0 + offN En ops q + t) = none) → Q .normal a w := fun listed a w hall' ⟨ρ, g1, g2, g3, _⟩ => by
          have e : foldA (fun q => listed.getD q false) 0 ops lr S0 = foldA (fun _ => true) 0 ops lr S0 := foldA_congr ops lr 0 S0 fun q hq' => by rw [Nat.zero_add]; exact hall' q hq'
          rw [e] at g1 g2
          exact hq _ ρ a w hk g1 g2 g3
        have notready : ∀ (listed : Array Bool), listed.size = ops.length → Region.ready .any ⟨ops⟩ listed = [] → ∀ q, q < ops.length → listed.getD q false = true := fun listed hsz hr q => by
          induction q using Nat.strongRecOn with
          | _ q ih =>
            intro hql
            cases hf : listed.getD q false with
            | true => rfl
            | false =>
              have hoq : ops[q]? = some ops[q] := List.getElem?_eq_getElem hql
              have hmem : q ∈ Region.ready .any ⟨ops⟩ listed := mem_ready.2 ⟨by
                have : q < listed.size := by omega
                simp only [Array.getD, this, dite_true] at hf ⊢
                exact hf, ops[q], by simp, fun e he hb => by
                have hd : e.on ∈ direct ops[q] := List.mem_map.2 ⟨e, List.mem_filter.2 ⟨by simpa using he, hb⟩, rfl⟩
                have hlt := fwd_at hfwd hoq e.on hd
                exact ih e.on (by omega) (by omega)⟩
              rw [hr] at hmem
              cases hmem
        induction fuel with
        | zero =>
          intro listed a w hsz hcnt hcl hJ
          have hall' := cnt_zero (f := fun q => listed.getD q false) (n := ops.length) (by omega)
          refine ⟨List.eq_nil_iff_forall_not_mem.2 fun i hi => ?_, done listed a w hall' hJ⟩
          obtain ⟨h1, o, h2, _⟩ := mem_ready.1 hi
          have hil : i < ops.length := by
            have := (Array.getElem?_eq_some_iff.1 h2).1
            simpa using this
          have := hall' i hil
          simp only [Array.getD, show i < listed.size by omega, dite_true] at this h1
          rw [this] at h1
          cases h1
        | succ fuel ih =>
          intro listed a w hsz hcnt hcl hJ
          refine ⟨fun hr => done listed a w (notready listed hsz hr) hJ, fun i hi => ?_⟩
          obtain ⟨h1, o, h2, h3⟩ := mem_ready.1 hi
          have hil : i < ops.length := by
            have := (Array.getElem?_eq_some_iff.1 h2).1
            simpa using this
          have hoi : ops[i]? = some o := by simpa using h2
          have hfi : listed.getD i false = false := by
            simp only [Array.getD, show i < listed.size by omega, dite_true] at h1 ⊢
            exact h1
          have hdi : ∀ d ∈ direct o, listed.getD d false = true := fun d hd => by
            obtain ⟨e, he, rfl⟩ := List.mem_map.1 hd
            have := List.mem_filter.1 he
            exact h3 e (by simpa using this.1) this.2
          have hdeps : ∀ d ∈ depN ops i, listed.getD d false = true := fun d hd => (depN_ok hfwd hoi hd).2 (fun q => listed.getD q false) hcl hdi
          have hri : lr[i]? = some lr[i] := List.getElem?_eq_getElem (by omega)
          generalize hr : lr[i]'(by omega) = r at hri
          have hfi' : lf[i]? = some lf[i] := List.getElem?_eq_getElem (by omega)
          generalize hfi0 : lf[i]'(by omega) = fi at hfi'
          have lfat : ∀ q, q < ops.length → ∃ f, lf[q]? = some f := fun q hq => ⟨lf[q]'(by omega), List.getElem?_eq_getElem (by omega)⟩
          have hf := hfact i o r fi hoi hri hfi'
          rw [Nat.zero_add] at hf
          -- whoever differs is unordered with i
          have diff : ∀ q oq rq, ops[q]? = some oq → lr[q]? = some rq → listed.getD q false ≠ Nat.blt q i → q ≠ i ∧ q ∉ depN ops i ∧ i ∉ depN ops q ∧ ((q < i ∧ listed.getD q false = false) ∨ (i < q ∧ listed.getD q false = true)) := fun q oq rq hoq hrq hne => by
            have hqi : q ≠ i := fun e => hne (by rw [e, hfi]; cases e' : Nat.blt i i with | false => rfl | true => rw [Nat.blt_eq] at e'; omega)
            cases hb : listed.getD q false with
            | false =>
              have : Nat.blt q i = true := by
                cases e : Nat.blt q i with
                | true => rfl
                | false => rw [hb, e] at hne; exact absurd rfl hne
              rw [Nat.blt_eq] at this
              exact ⟨hqi, fun hm => (by rw [hdeps q hm] at hb; cases hb), fun hm => (by have := (depN_ok hfwd hoq hm).1; omega), .inl ⟨this, rfl⟩⟩
            | true =>
              have : ¬ q < i := fun hlt => by
                have e : Nat.blt q i = true := by rw [Nat.blt_eq]; exact hlt
                rw [hb, e] at hne
                exact hne rfl
              refine ⟨hqi, fun hm => (by have := (depN_ok hfwd hoi hm).1; omega), fun hm => ?_, .inr ⟨by omega, rfl⟩⟩
              have := (depN_ok hfwd hoq hm).2 (fun q => listed.getD q false) hcl (hcl q oq hb hoq)
              exact absurd (hfi.symm.trans this) (by decide)
          have pair : ∀ q oq rq, ops[q]? = some oq → lr[q]? = some rq → listed.getD q false ≠ Nat.blt q i → okPair En ops n0 q o oq r rq fi = true := fun q oq rq hoq hrq hne => by
            obtain ⟨d1, d2, d3, _⟩ := diff q oq rq hoq hrq hne
            rcases (hrow hoi hri hfi' hoq hrq).1 with e | e | e | e
            · exact absurd e d1
            · exact absurd e d2
            · exact absurd e d3
            · exact e
          obtain ⟨ρ, g1, g2, g3, g4⟩ := hJ
          generalize hT : foldA (fun p => Nat.blt p i) 0 ops lr S0 = T at hf
          generalize hX : foldA (fun q => listed.getD q false) 0 ops lr S0 = X at g1 g2
          have lenT := foldA_len (fun p => Nat.blt p i) ops lr 0 S0
          have lenX := foldA_len (fun q => listed.getD q false) ops lr 0 S0
          rw [hT] at lenT
          rw [hX] at lenX
          have slot : ∀ t ∈ o.looksAt ⟨ops⟩, nthO T.slots t = nthO X.slots t := fun t ht => by
            rw [← hT, ← hX]
            refine (lookS ops lr 0 S0 S0 hlr.symm rfl rfl fun q oq hoq hne hd => ?_).symm
            rw [Nat.zero_add] at hne
            have hrq : lr[q]? = some (lr[q]'(by have := (List.getElem?_eq_some_iff.1 hoq).1; omega)) := List.getElem?_eq_getElem _
            have hp := pair q oq _ hoq hrq hne
            have := (pair_slot hp hd).1
            rw [Bool.eq_false_iff] at this
            exact this (memN_iff.2 ht)
          have hwA : wantA ops T o = wantA ops X o := wantA_congr slot
          -- what follows when i is listed
          have step : ∀ (u : Value) (ρ' : Ren) (w' : World), Rn ρ' (Rc.val r) u → RLe ρ ρ' → (∀ j, (∀ t, t < wdN En ops i → j ≠ n0 + offN En ops i + t) → ρ' j = ρ j) → HC base w0 ρ' (Rc.heap r X.heap) w' → wpAny En.P .any ⟨ops⟩ Q fuel (listed.setIfInBounds i true) (a.put o.dst u) w' := fun u ρ' w' e1 e2 e3 e4 => by
            have hget : ∀ q, (listed.setIfInBounds i true).getD q false = (listed.getD q false || Nat.beq q i) := fun q => by
              by_cases e : q = i
              · subst e
                have hb : Nat.beq q q = true := by rw [Nat.beq_eq]
                rw [hb, Bool.or_true]
                have hlt : q < (listed.setIfInBounds q true).size := by simp; omega
                simp [Array.getD, show q < listed.size by omega]
              · have hb : Nat.beq q i = false := by
                  cases e' : Nat.beq q i with
                  | false => rfl
                  | true => rw [Nat.beq_eq] at e'; exact absurd e' e
                rw [hb, Bool.or_false, Array.getD_eq_getD_getElem?, Array.getD_eq_getD_getElem?, Array.getElem?_setIfInBounds_ne (Ne.symm e)]
            have hfe : (fun q => (listed.setIfInBounds i true).getD q false) = fun q => listed.getD q false || Nat.beq q i := funext hget
            refine ih (listed.setIfInBounds i true) (a.put o.dst u) w' (by simp [hsz]) ?_ ?_ ⟨ρ', ?_, ?_, g3.trans e2, fun q hql hq' => ?_⟩
            · have := cnt_put (f := fun q => listed.getD q false) hfi ops.length hil
              have he : (List.range ops.length).countP (fun q => !((listed.setIfInBounds i true).getD q false)) = (List.range ops.length).countP (fun q => !(listed.getD q false || Nat.beq q i)) := by simp only [hget]
              rw [he]
              omega
            · intro q oq hq' hoq d hd
              rw [hget] at hq' ⊢
              rw [Bool.or_eq_true] at hq' ⊢
              rcases hq' with hq' | hq'
              · exact .inl (hcl q oq hq' hoq d hd)
              · rw [Nat.beq_eq] at hq'
                subst hq'
                rw [hoi] at hoq
                cases hoq
                exact .inl (hdi d hd)
            all_goals try rw [hfe, foldA_put ops lr 0 S0 hlr.symm (Nat.zero_le i) hoi hri hfi ?_, hX]
            · exact (g1.mono e2).putO o.dst e1
            · intro q p s' hiq hp hs' hlq
              rw [Nat.zero_add] at hiq hlq
              have hne : listed.getD q false ≠ Nat.blt q i := by
                have : Nat.blt q i = false := by
                  cases e' : Nat.blt q i with
                  | false => rfl
                  | true => rw [Nat.blt_eq] at e'; omega
                rw [hlq, this]; decide
              have hp' := pair q p s' hp hs' hne
              refine ⟨fun d hd hd' => (pair_slot hp' hd').2 hd, fun e he he' => ?_⟩
              rcases hrid (q := q) he' with e5 | e5
              · rcases hrid (q := i) he with e6 | e6
                · exact range_ne (by omega) e6 e5
                · obtain ⟨fq, hfq⟩ := lfat q (List.getElem?_eq_some_iff.1 hp).1
                  have := (depN_ok hfwd hoi (set_outs (hrow hp hs' hfq hoi hri).2 e6 e5)).1
                  omega
              · exact (pair_outs hp' e5).2 he
            · exact e4
            · intro q p s' hiq hp hs' hlq
              rw [Nat.zero_add] at hiq hlq
              have hne : listed.getD q false ≠ Nat.blt q i := by
                have : Nat.blt q i = false := by
                  cases e' : Nat.blt q i with
                  | false => rfl
                  | true => rw [Nat.blt_eq] at e'; omega
                rw [hlq, this]; decide
              have hp' := pair q p s' hp hs' hne
              refine ⟨fun d hd hd' => (pair_slot hp' hd').2 hd, fun e he he' => ?_⟩
              rcases hrid (q := q) he' with e5 | e5
              · rcases hrid (q := i) he with e6 | e6
                · exact range_ne (by omega) e6 e5
                · obtain ⟨fq, hfq⟩ := lfat q (List.getElem?_eq_some_iff.1 hp).1
                  have := (depN_ok hfwd hoi (set_outs (hrow hp hs' hfq hoi hri).2 e6 e5)).1
                  omega
              · exact (pair_outs hp' e5).2 he
            · rw [hget, Bool.or_eq_false_iff] at hq'
              have hne : q ≠ i := fun e => by rw [e, show Nat.beq i i = true by rw [Nat.beq_eq]] at hq'; cases hq'.2
              intro t ht
              rw [e3 (n0 + offN En ops q + t) fun t' ht' he => range_ne (En := En) (ops := ops) (n0 := n0) (i := q) (q := i) (e := n0 + offN En ops q + t) hne ⟨by omega, by omega⟩ ⟨by omega, by omega⟩]
              exact g4 q hql hq'.1 t ht
          unfold wpOp
          have hoA : ((⟨ops⟩ : Array Oper)[i]?) = some o := h2
          rw [hoA]
          simp only
          rcases r with _ | ⟨v, e⟩
          · have hw : wantA ops X o = some false := by rw [← hwA]; exact hf
            rw [if_neg (by rw [wantA_ok hw g1]; decide)]
            exact step undef ρ w (undef_Rn ρ) (RLe.refl ρ) (fun _ _ => rfl) g2
          · obtain ⟨hf1, hff, hf2⟩ := hf
            have hw : wantA ops X o = some true := by rw [← hwA]; exact hf1
            rw [if_pos (wantA_ok hw g1)]
            refine .inl ?_
            have hsat := hf2 (fun y => .ask (y = (v, e)) (.done .normal ⟨[], []⟩)) (fun _ _ => True) ⟨rfl, trivial⟩
            have hsr : SC ρ (restr ops i o (lr.take i) T).slots a := by
              refine ⟨g1.1, ?_, fun t x hx => ?_⟩
              · show a.tmps.size = (maskS _ 0 T.slots).length
                rw [maskS_len, lenT.1, ← lenX.1]
                exact g1.2.1
              · obtain ⟨hx1, hx2⟩ := maskS_at _ _ _ _ hx
                rw [Nat.zero_add] at hx2
                rw [slot t hx2] at hx1
                exact g1.2.2 t x hx1
            have hwi : wdN En ops i = wd En o := by unfold wdN; rw [nthL_eq, hoi]
            have hHl : X.heap.length = n0 + offN En ops ops.length := by rw [lenX.2, hS0h]; simp [goneL_len, hn0]
            obtain ⟨v', e', ⟨he', _⟩, hwp⟩ := rx_ok hE hsat hsr g2 (by
                show (maskH _ _ 0 T.heap).length = X.heap.length
                rw [maskH_len, lenT.2, lenX.2]) (fun p x hx => by
                rcases maskH_at _ _ _ _ _ hx with hx | ⟨hx1, hx2, hx3⟩
                · exact .inl hx
                · rw [Nat.zero_add] at hx3
                  by_cases hex : ∃ q rq, lr[q]? = some rq ∧ listed.getD q false ≠ Nat.blt q i ∧ p ∈ Rc.ids rq
                  · obtain ⟨q, rq, hq1, hq2, hq3⟩ := hex
                    have hql : q < ops.length := by have := (List.getElem?_eq_some_iff.1 hq1).1; omega
                    have hoq : ops[q]? = some ops[q] := List.getElem?_eq_getElem hql
                    obtain ⟨d1, d2, d3, d4⟩ := diff q _ rq hoq hq1 hq2
                    rcases d4 with ⟨d4, d5⟩ | ⟨d4, d5⟩
                    · exfalso
                      have htk : (lr.take i)[q]? = some rq := by rw [List.getElem?_take, if_pos d4]; exact hq1
                      exact hx3 (goneFor_mem (j := 0) htk hq3 (by rw [Nat.zero_add]; exact d2))
                    · rcases hrid (q := q) hq3 with e5 | e5
                      · left
                        have hz : T.heap[p]? = S0.heap[p]? := by
                          have := lookH (f := fun p => Nat.blt p i) (g := fun _ => false) (e := p) ops lr 0 S0 S0 hlr.symm rfl rfl fun p' rp hp' hne' hid' => by
                            rw [Nat.zero_add] at hne'
                            have hp'i : p' < i := by
                              cases e' : Nat.blt p' i with
                              | true => rw [Nat.blt_eq] at e'; exact e'
                              | false => rw [e'] at hne'; exact absurd rfl hne'
                            have hop' : ops[p']? = some (ops[p']'(by omega)) := List.getElem?_eq_getElem _
                            rcases hrid (q := p') hid' with e6 | e6
                            · exact range_ne (by omega) e6 e5
                            · obtain ⟨fq, hfq⟩ := lfat q hql
                              have := (depN_ok hfwd hop' (set_outs (hrow hoq hq1 hfq hop' hp').2 e6 e5)).1
                              omega
                          rw [hT] at this
                          rw [this]
                          have hnone : ∀ (l : List Oper) (lr : List Rc) (j : Nat) (S : ASt), foldA (fun _ => false) j l lr S = S := fun l => by
                            induction l with
                            | nil => intro lr j S; rfl
                            | cons a l ih => intro lr j S; cases lr with | nil => rfl | cons b lr => exact ih lr (j + 1) S
                          rw [hnone]
                        rw [hz, hS0h, List.getElem?_append_right (by omega)] at hx1
                        exact goneL_at _ _ _ hx1
                      · exfalso
                        have h5 := (pair_outs (pair q _ rq hoq hq1 hq2) e5).1
                        rw [Nat.zero_add, ← hff, h5] at hx2
                        cases hx2
                  · right
                    rw [← hx1, ← hT, ← hX]
                    refine lookH ops lr 0 S0 S0 hlr.symm rfl rfl fun q rq hq1 hq2 hq3 => ?_
                    rw [Nat.zero_add] at hq2
                    exact hex ⟨q, rq, hq1, hq2, hq3⟩) (by rw [hwi]; exact need_wd _ _ _) (by rw [hwi]; exact wd_six _ _) (fun t ht => ⟨by
                have := off_step En ops i ops.length hil
                rw [hHl]; omega, g4 i hil hfi t ht⟩)
            cases he'
            exact hwp _ _ fun u ρ' w' e1 e2 e3 e4 => step u ρ' w' e1 e2 e3 e4
      refine main ops.length (Array.replicate ops.length false) a0 w1 (by simp) ?_ ?_ ⟨ρ0, ?_, ?_, RLe.refl ρ0, fun q _ _ t _ => ?_⟩
      · have := List.countP_le_length (p := fun q => !((Array.replicate ops.length false).getD q false)) (l := List.range ops.length)
        simpa using this
      · intro q o hq' 
        have : (Array.replicate ops.length false).getD q false = false := by
          simp only [Array.getD]
          split <;> simp
        rw [this] at hq'
        cases hq'
      all_goals try
        have hfe : (fun q => (Array.replicate ops.length false).getD q false) = fun _ => false := funext fun q => by
          simp only [Array.getD]
          split <;> simp
      all_goals try
        have hnone : ∀ (l : List Oper) (lr : List Rc) (j : Nat) (S : ASt), foldA (fun _ => false) j l lr S = S := fun l => by
          induction l with
          | nil => intro lr j S; rfl
          | cons a l ih => intro lr j S; cases lr with | nil => rfl | cons b lr => exact ih lr (j + 1) S
      · rw [hfe, hnone, hS0s]; exact hs0
      · rw [hfe, hnone, hS0h]; exact hc0.gones _
      · cases e : ρ0 (n0 + offN En ops q + t) with
        | none => rfl
        | some l => have := hc0.dom _ _ e; omega
    · exact hk.elim
  · exact h.elim
end Go.Proofs.Ytpkckgdpdnkbeaa
