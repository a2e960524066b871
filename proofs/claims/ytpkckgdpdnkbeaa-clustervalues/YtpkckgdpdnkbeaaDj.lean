/- What operations that are done leave behind: nodes, messages, majorities. What an operation that is done knew is kept by those that told it. What an operation that is done knew is kept: step by step. Who begins behind the end of another one knows what that one knew: step by step. -/
import Derived.Test.YtpkckgdpdnkbeaaDi
namespace Go.Proofs.Ytpkckgdpdnkbeaa
open Go.RowKit
abbrev bS (q : List Value) : St := (q4 q, q5 q)
abbrev nSt (p : List Value) : St := (pT p, pW p)
abbrev lS (l : List Value) : St := (mTi l, mWh l)
abbrev sle (a b : St) : Prop := slt b a = false
abbrev hb (q : List Value) (n : Nat) : Prop := btR (q7 q) (n : Int) = 1
theorem sle_refl (a : St) : sle a a := slt_irr a
theorem sle_tr {a b c : St} (h1 : sle a b) (h2 : sle b c) : sle a c := slt_nn h2 h1
theorem sle_lt {a b c : St} (h1 : sle a b) (h2 : slt b c = true) : slt a c = true := by
  have h1 := (slt_niff _ _).1 h1
  have h2 := (slt_iff _ _).1 h2
  exact (slt_iff _ _).2 (by omega)
theorem lt_sle {a b : St} (h : slt a b = true) : sle a b := slt_as h
/-- bits -/
theorem bt_nat {h n : Nat} (hh : h < 18446744073709551616) (hn : n < 64) : btR (h : Int) (n : Int) = ((h / 2 ^ n % 2 : Nat) : Int) := by
  show andI (shrV .u64 (h : Int) n) ((1 : Nat) : Int) = _
  rw [shr_nat _ _ (by omega), andI_nat (Nat.lt_of_le_of_lt (Nat.div_le_self _ _) hh) (by decide), Nat.and_one_is_mod]
theorem bt_test {h n : Nat} (hh : h < 18446744073709551616) (hn : n < 64) : btR (h : Int) (n : Int) = 1 ↔ h.testBit n = true := by
  rw [bt_nat hh hn, Nat.testBit_eq_decide_div_mod_eq, decide_eq_true_iff]
  omega
theorem bt_heard {h : Int} (hw : (Lit.int .u64 h).wf = true) {k n : Nat} (hk : k < 64) (hn : n < 64) : btR (heardN h (k : Int)) (n : Int) = 1 ↔ (btR h (n : Int) = 1 ∨ n = k) := by
  obtain ⟨a, rfl, ha⟩ := wf_nat hw
  have hlt : 2 ^ k < 18446744073709551616 := Nat.pow_lt_pow_right (a := 2) (n := 64) (by decide) hk
  rw [heard_nat ha hk, bt_test (Nat.or_lt_two_pow (n := 64) ha hlt) hn, bt_test ha hn, Nat.testBit_or, Nat.testBit_two_pow, Bool.or_eq_true, decide_eq_true_iff]
  constructor
  · rintro (h | h)
    · exact .inl h
    · exact .inr h.symm
  · rintro (h | h)
    · exact .inl h
    · exact .inr h.symm
theorem bt_zero (n : Nat) (hn : n < 64) : ¬ btR 0 (n : Int) = 1 := by
  rw [show (0 : Int) = ((0 : Nat) : Int) from rfl, bt_test (by decide) hn]
  simp
/-- two sets that are enough have one in common -/
theorem meet_k {L : List Int} (h : anyB L = false) (s t : Int) : ∀ k, k ≤ L.length → (∀ n, n < k → ¬ (btR s (n : Int) = 1 ∧ btR t (n : Int) = 1)) → smK L s k + smK L t k ≤ totK L k
  | 0, _, _ => by simp [smK, totK]
  | k + 1, hk, hd => by
    have ih := meet_k h s t k (by omega) fun n hn => hd n (by omega)
    have hpos : 0 ≤ L[k]?.getD 0 := by
      have h1 := tot_le h (k + 1) hk
      rw [List.getElem?_eq_getElem (by omega)]
      have hm : L[k] ∈ L := List.getElem_mem _
      have : wBad L[k] = false := by
        have := List.any_eq_false.1 h _ hm
        simpa using this
      have := of_decide_eq_false this
      show 0 ≤ L[k]
      omega
    have hdk := hd k (by omega)
    unfold smK totK
    by_cases h1 : btR s (k : Int) = 1
    · have h2 : ¬ btR t (k : Int) = 1 := fun h2 => hdk ⟨h1, h2⟩
      rw [if_pos h1, if_neg h2]
      omega
    · rw [if_neg h1]
      by_cases h2 : btR t (k : Int) = 1
      · rw [if_pos h2]; omega
      · rw [if_neg h2]; omega
theorem enough_sm {m : Nat} {w : Nat → List Value} {need s : Int} (hq : qE (wsOf m w) need = 0) (h : x0_enough m w need s = true) : need ≤ smK (wsOf m w) s (wsOf m w).length := by
  have hm := qE_m hq
  unfold x0_enough at h
  have e : (qE (wsOf m fun j => w j) need != 0) = false := by rw [show qE (wsOf m fun j => w j) need = 0 from hq]; rfl
  rw [e, cond_false] at h
  have h := of_decide_eq_true h
  have h : sV (wsOf m w) s ≥ need := h
  unfold sV at h
  split at h
  · exact h
  · omega
theorem enough_meet {m : Nat} {w : Nat → List Value} {need s t : Int} (hq : qE (wsOf m w) need = 0) (h1 : x0_enough m w need s = true) (h2 : x0_enough m w need t = true) : ∃ n, n < m ∧ btR s (n : Int) = 1 ∧ btR t (n : Int) = 1 := by
  apply Classical.byContradiction
  intro hn
  have hm := qE_m hq
  have a1 := enough_sm hq h1
  have a2 := enough_sm hq h2
  have := meet_k hm.2.2.1 s t (wsOf m w).length (Nat.le_refl _) fun n hn' hc => hn ⟨n, by rw [ws_len] at hn'; exact hn', hc⟩
  omega
/-- what a node does -/
theorem sv_full {p l : List Value} (hp : cck ((pT p, pW p), pS p) = 0) (hl : mChk l = 0) :
    (mKd l = 1 → sC p l = [.int .i64 (pT p), .int .i64 (pW p), .string (pS p)] ∧ ∀ j, j < sN p l → sG p l j = mgC 2 (mOp l) (mNo l) (pT p) (pW p) (pS p)) ∧
    (mKd l = 3 → sle (nSt p) (nSt (sC p l)) ∧ sle (lS l) (nSt (sC p l)) ∧ (sC p l = [.int .i64 (pT p), .int .i64 (pW p), .string (pS p)] ∨ sC p l = [.int .i64 (mTi l), .int .i64 (mWh l), .string (mDa l)]) ∧ ∀ j, j < sN p l → sG p l j = mgC 4 (mOp l) (mNo l) 0 0 ⟨#[]⟩) := by
  have hc := mchk_copy hl
  have z1 : (cck ((pT p, pW p), pS p) != 0) = false := by rw [hp]; rfl
  have z2 : (x_wchk (mKd l) (mOp l) (mNo l) (mTi l) (mWh l) (mDa l) != 0) = false := by rw [show x_wchk (mKd l) (mOp l) (mNo l) (mTi l) (mWh l) (mDa l) = 0 from hl]; rfl
  unfold sC sN sG x0_serve x1_serve x2_serve n3_serve g3_serve
  simp only [z1, z2, cond_false]
  constructor
  · intro h
    have h1 : (mKd l == 1) = true := beq_iff_eq.2 h
    simp only [h1, cond_true]
    refine ⟨by trivial, fun j hj => ?_⟩
    obtain rfl : j = 0 := by omega
    rfl
  · intro h
    have h1 : (mKd l == 1) = false := beq_eq_false_iff_ne.2 (by omega)
    have h3 : (mKd l == 3) = true := beq_iff_eq.2 h
    simp only [h1, h3, cond_false, cond_true]
    have hk : cks [((pT p, pW p), pS p), ((mTi l, mWh l), mDa l)] = 0 := by
      show (if cck ((pT p, pW p), pS p) = 0 then (if cck ((mTi l, mWh l), mDa l) = 0 then (0 : Int) else cck ((mTi l, mWh l), mDa l)) else cck ((pT p, pW p), pS p)) = 0
      rw [if_pos hp, if_pos hc]
    have hkb : (cks [((pT p, pW p), pS p), ((mTi l, mWh l), mDa l)] != 0) = false := by rw [hk]; rfl
    unfold x0_store x1_store x2_store
    simp only [hkb, cond_false]
    have hl2 : ∀ q : Cp, q = ltr ((pT p, pW p), pS p) ((mTi l, mWh l), mDa l) → sle (nSt p) q.1 ∧ sle (lS l) q.1 ∧ (q = ((pT p, pW p), pS p) ∨ q = ((mTi l, mWh l), mDa l)) := fun q hq => by
      subst hq
      unfold ltr
      cases hs : slt (pT p, pW p) (mTi l, mWh l) with
      | true => rw [if_pos rfl]; exact ⟨slt_as hs, sle_refl _, .inr rfl⟩
      | false => rw [if_neg (by decide)]; exact ⟨sle_refl _, hs, .inl rfl⟩
    obtain ⟨g1, g2, g3⟩ := hl2 _ rfl
    refine ⟨g1, g2, ?_, fun j hj => ?_⟩
    · rcases g3 with g3 | g3
      · rw [g3]; exact .inl rfl
      · rw [g3]; exact .inr rfl
    · obtain rfl : j = 0 := by omega
      rfl
/-- messages behind a step: an old one, or one of the new ones -/
theorem mem_join {n k : Nat} {g f : Nat → List Value} {j : Nat} (hj : j < n + k) : (j < n ∧ joinG n g f j = g j) ∨ (j - n < k ∧ joinG n g f j = f (j - n)) := by
  rw [joinG_at]
  split
  · exact .inl ⟨by assumption, rfl⟩
  · exact .inr ⟨by omega, rfl⟩
theorem mem_del {d i : Nat} {g : Nat → List Value} {j : Nat} (hj : j < d - 1) : ∃ j', j' < d ∧ delG i g j = g j' := by
  rw [delG_at]
  split
  · exact ⟨j, by omega, rfl⟩
  · exact ⟨j + 1, by omega, rfl⟩
theorem wait_kinds {op p hd : Int} {m : Nat} {mk mo n : Int} (h : x_wait op p hd m mk mo n = true) : (p = 1 ∧ mk = 2) ∨ (p = 2 ∧ mk = 4) := by
  unfold x_wait at h
  have key : ∀ {a b c e : Bool}, (bif a then (bif b then (bif c then e else false) else false) else false) = true → a = true := by
    intro a b c e; cases a <;> simp
  cases h1 : (p == 1) with
  | true =>
    rw [h1] at h
    simp only [cond_true] at h
    exact .inl ⟨eq_of_beq h1, eq_of_beq (key h)⟩
  | false =>
    rw [h1] at h
    simp only [cond_false] at h
    cases h2 : (p == 2) with
    | true =>
      rw [h2] at h
      simp only [cond_true] at h
      exact .inr ⟨eq_of_beq h2, eq_of_beq (key h)⟩
    | false => rw [h2] at h; cases h
abbrev opOf (l : List Value) : Nat := (mOp l).toNat
abbrev nodeOf (l : List Value) : Nat := (mNo l).toNat
/-- what each message says -/
def MsgOk (x : CL) (l : List Value) : Prop :=
  (mKd l = 3 → mNo (x.ak (opOf l)) ≠ 1 ∧ lS l = bS (x.ak (opOf l))) ∧
  (mKd l = 4 → mNo (x.ak (opOf l)) ≠ 1 ∧ sle (bS (x.ak (opOf l))) (nSt (x.nd (nodeOf l))))
structure Kept (x : CL) : Prop where
  msg : ∀ j, j < x.d → MsgOk x (x.nt j)
  put : ∀ o, o < x.b → mNo (x.ak o) ≠ 1 → ∀ n, n < x.m → hb (x.ak o) n → sle (bS (x.ak o)) (nSt (x.nd n))
  fin : ∀ o, o < x.b → mNo (x.ak o) = 3 → x0_enough x.m x.w x.need (q7 (x.ak o)) = true
theorem bst_two {p t w : Int} {s : ByteArray} {x y : Int} {z : ByteArray} (h1 : cck ((t, w), s) = 0) (h2 : cck ((x, y), z) = 0) : sle (t, w) (bst p t w s x y z).1 ∧ (p = 1 → sle (x, y) (bst p t w s x y z).1) ∧ (p ≠ 1 → bst p t w s x y z = ((t, w), s)) ∧ (bst p t w s x y z = ((t, w), s) ∨ bst p t w s x y z = ((x, y), z)) := by
  unfold bst
  by_cases h : p = 1
  · rw [show (p == 1) = true from beq_iff_eq.2 h, cond_true, mg_two h1 h2]
    cases hs : slt (t, w) (x, y) with
    | true => rw [if_pos rfl]; exact ⟨slt_as hs, fun _ => sle_refl _, fun h' => absurd h h', .inr rfl⟩
    | false => rw [if_neg (by decide)]; exact ⟨sle_refl _, fun _ => hs, fun h' => absurd h h', .inl rfl⟩
  · rw [show (p == 1) = false from beq_eq_false_iff_ne.2 h, cond_false]
    exact ⟨sle_refl _, fun h' => absurd h' h, fun _ => rfl, .inl rfl⟩
/-- what becomes of an operation by a message, in what is wanted of it -/
structure Heard (x : CL) (q l q' : List Value) : Prop where
  kind : mOp q' = mOp q
  num : mKd q' = mKd q
  late : mNo q ≠ 1 → mNo q' ≠ 1 ∧ bS q' = bS q ∧ (∀ n, n < 64 → (hb q' n ↔ hb q n ∨ (n = nodeOf l ∧ mNo q = 2 ∧ mKd l = 4 ∧ opOf l = (mKd q).toNat ∧ hb q' n))) 
  done : mNo q' = 3 → (mNo q = 3 ∧ q7 q' = q7 q) ∨ x0_enough x.m x.w x.need (q7 q') = true
  three : mNo q = 3 → mNo q' = 3 ∧ bS q' = bS q ∧ q7 q' = q7 q
  new1 : mNo q = 1 → mNo q' ≠ 1 → ∀ n, n < 64 → ¬ hb q' n
  sent : ∀ j, j < hN x q l → ∃ s, hG x q l j = mgC 3 (mKd q) (j : Int) (bS q').1 (bS q').2 s ∧ mNo q' ≠ 1
  grow : mNo q = 1 → sle (bS q) (bS q')
  one : mNo q = 1 → mNo q' = 1 → (∀ n, n < 64 → (hb q' n → hb q n ∨ (n = nodeOf l ∧ mKd l = 2 ∧ sle (lS l) (bS q'))))
  choose : mNo q = 1 → mNo q' ≠ 1 → mKd l = 2 ∧ nodeOf l < x.m ∧ x0_enough x.m x.w x.need (heardN (q7 q) (mNo l)) = true ∧ ∃ b : St, sle (bS q) b ∧ sle (lS l) b ∧ (mOp q = 2 → slt b (bS q') = true) ∧ (mOp q ≠ 2 → bS q' = b)
theorem heard_all {x : CL} {q l : List Value} (hq : aChk x.m x.w x.need q = 0) (hl : mChk l = 0) (hw : (Lit.int .u64 (q7 q)).wf = true) : Heard x q l (hC x q l) := by
  have h0 : x_achk x.m x.w x.need (mKd q) (mOp q) (mNo q) (q3 q) (q4 q) (q5 q) (q6 q) (q7 q) = 0 := hq
  have hcq := (achk_iff.1 h0).2.2.2.2.2.2.2.1
  have hcm := mchk_copy hl
  obtain ⟨b1, b2, b3, b4⟩ := bst_two (p := mNo q) hcq hcm
  obtain ⟨e0, e1, e2, e3, e4, e5, e6, e7, e8, e9⟩ := hH_eq x q l
  have hn0 := (mchk_rng hl).2.2.1
  have hn12 := (mchk_rng hl).2.2.2.1
  have eN : mNo l = ((nodeOf l : Nat) : Int) := (Int.toNat_of_nonneg hn0).symm
  have hN12 : nodeOf l < 12 := by show (mNo l).toNat < 12; omega
  have nothing : hH x q l = ⟨mKd q, mOp q, mNo q, q3 q, q4 q, q5 q, q6 q, q7 q, 0, nil8, 0⟩ → Heard x q l (hC x q l) := fun e => by
    have en : hN x q l = 0 := by rw [e8, e]
    have eb : bS (hC x q l) = bS q := by show (q4 (hC x q l), q5 (hC x q l)) = _; rw [e4, e5, e]
    have ep : mNo (hC x q l) = mNo q := by rw [e2, e]
    have eh : q7 (hC x q l) = q7 q := by rw [e7, e]
    have bits : ∀ n : Nat, hb (hC x q l) n ↔ hb q n := fun n => by show btR (q7 (hC x q l)) _ = 1 ↔ _; rw [eh]
    exact ⟨by rw [e1, e], by rw [e0, e], fun h => ⟨by rw [ep]; exact h, eb, fun n _ => ⟨fun h => .inl ((bits n).1 h), fun h => h.elim (bits n).2 fun h => h.2.2.2.2⟩⟩, fun h => .inl ⟨ep.symm.trans h, eh⟩, fun h => ⟨ep.trans h, eb, eh⟩, fun h1 h2 => absurd (ep.trans h1) h2, fun j hj => by rw [en] at hj; omega, fun _ => by rw [eb]; exact sle_refl _, fun _ _ n _ h => .inl ((bits n).1 h), fun h1 h2 => absurd (ep.trans h1) h2⟩
  rcases h_cases (x := x) hq hl with ⟨_, e⟩ | ⟨ht, ⟨_, e⟩ | ⟨hF, hp, e⟩ | ⟨_, hp, hk, _, e⟩ | ⟨hF, hp, hk, hx, e⟩ | ⟨hF, hp, hk, e⟩⟩
  · exact nothing e
  · have en : hN x q l = 0 := by rw [e8, e]
    have kinds := wait_kinds ht
    have wt := wait_t ht
    have eb : bS (hC x q l) = (bst (mNo q) (q4 q) (q5 q) (q6 q) (mTi l) (mWh l) (mDa l)).1 := by show (q4 (hC x q l), q5 (hC x q l)) = _; rw [e4, e5, e]
    have ep : mNo (hC x q l) = mNo q := by rw [e2, e]
    have eh : q7 (hC x q l) = heardN (q7 q) (mNo l) := by rw [e7, e]
    have bits : ∀ n, n < 64 → (hb (hC x q l) n ↔ hb q n ∨ n = nodeOf l) := fun n hn => by
      show btR (q7 (hC x q l)) _ = 1 ↔ _
      rw [eh, eN]
      exact bt_heard (k := nodeOf l) (n := n) hw (by omega) hn
    refine ⟨by rw [e1, e], by rw [e0, e], fun h => ⟨by rw [ep]; exact h, by rw [eb, b3 h], fun n hn => ?_⟩, fun h => ?_, fun h => ?_, fun h1 h2 => absurd (ep.trans h1) h2, fun j hj => by rw [en] at hj; omega, fun _ => by rw [eb]; exact b1, fun h1 _ n hn hbn => ?_, fun h1 h2 => absurd (ep.trans h1) h2⟩
    · have h2 : mNo q = 2 := by rcases wt.1 with h' | h'; exact absurd h' h; exact h'
      have k4 : mKd l = 4 := by rcases kinds with h' | h'; omega; exact h'.2
      constructor
      · intro hbn
        rcases (bits n hn).1 hbn with h' | h'
        · exact .inl h'
        · exact .inr ⟨h', h2, k4, by have := wt.2.1; show (mOp l).toNat = _; rw [this], hbn⟩
      · rintro (h' | h')
        · exact (bits n hn).2 (.inl h')
        · exact h'.2.2.2.2
    · rw [ep] at h
      rcases wt.1 with h' | h' <;> omega
    · rcases wt.1 with h' | h' <;> omega
    · rcases (bits n hn).1 hbn with h' | h'
      · exact .inl h'
      · exact .inr ⟨h', by rcases kinds with h' | h'; exact h'.2; omega, by rw [eb]; exact b2 h1⟩
  · have en : hN x q l = 0 := by rw [e8, e]
    have wt := wait_t ht
    have kinds := wait_kinds ht
    have eb : bS (hC x q l) = bS q := by show (q4 (hC x q l), q5 (hC x q l)) = _; rw [e4, e5, e]
    have ep : mNo (hC x q l) = 3 := by rw [e2, e]
    have eh : q7 (hC x q l) = heardN (q7 q) (mNo l) := by rw [e7, e]
    have bits : ∀ n, n < 64 → (hb (hC x q l) n ↔ hb q n ∨ n = nodeOf l) := fun n hn => by
      show btR (q7 (hC x q l)) _ = 1 ↔ _
      rw [eh, eN]
      exact bt_heard (k := nodeOf l) (n := n) hw (by omega) hn
    have k4 : mKd l = 4 := by rcases kinds with h' | h'; omega; exact h'.2
    refine ⟨by rw [e1, e], by rw [e0, e], fun h => ⟨by rw [ep]; decide, eb, fun n hn => ?_⟩, fun _ => .inr (by rw [eh]; exact hF), fun h => by omega, fun h1 => by omega, fun j hj => by rw [en] at hj; omega, fun h => by omega, fun h => by omega, fun h => by omega⟩
    constructor
    · intro hbn
      rcases (bits n hn).1 hbn with h' | h'
      · exact .inl h'
      · exact .inr ⟨h', hp, k4, by have := wt.2.1; show (mOp l).toNat = _; rw [this], hbn⟩
    · rintro (h' | h')
      · exact (bits n hn).2 (.inl h')
      · exact h'.2.2.2.2
  · exact nothing e
  · have wt := wait_t ht
    have kinds := wait_kinds ht
    obtain ⟨x1, x2, x3⟩ := nxW_of hx
    have eb : bS (hC x q l) = ((bst (mNo q) (q4 q) (q5 q) (q6 q) (mTi l) (mWh l) (mDa l)).1.1 + 1, mKd q) := by show (q4 (hC x q l), q5 (hC x q l)) = _; rw [e4, e5, e]; exact Prod.ext x2 x1
    have ep : mNo (hC x q l) = 2 := by rw [e2, e]
    have eh : q7 (hC x q l) = 0 := by rw [e7, e]
    have up : slt (bst (mNo q) (q4 q) (q5 q) (q6 q) (mTi l) (mWh l) (mDa l)).1 (bS (hC x q l)) = true := by
      rw [eb]
      exact (slt_iff _ _).2 (.inl (by show _ < _ + 1; omega))
    refine ⟨by rw [e1, e], by rw [e0, e], fun h => absurd hp h, fun h => by omega, fun h => by omega, fun _ _ n hn => by show ¬ btR (q7 (hC x q l)) _ = 1; rw [eh]; exact bt_zero n hn, fun j hj => ⟨q3 q, ?_, by rw [ep]; decide⟩, fun _ => sle_tr b1 (lt_sle up), fun _ h => by omega, fun _ _ => ⟨by rcases kinds with h' | h'; exact h'.2; omega, by have := wt.2.2.1; omega, hF, (bst (mNo q) (q4 q) (q5 q) (q6 q) (mTi l) (mWh l) (mDa l)).1, b1, b2 hp, fun _ => up, fun h => absurd hk h⟩⟩
    rw [e9, e, eb]
    show mgC 3 (mKd q) (j : Int) (nxT _ _ _) (nxW _ _ _) (q3 q) = _
    rw [x1, x2]
  · have wt := wait_t ht
    have kinds := wait_kinds ht
    have eb : bS (hC x q l) = (bst (mNo q) (q4 q) (q5 q) (q6 q) (mTi l) (mWh l) (mDa l)).1 := by show (q4 (hC x q l), q5 (hC x q l)) = _; rw [e4, e5, e]
    have ep : mNo (hC x q l) = 2 := by rw [e2, e]
    have eh : q7 (hC x q l) = 0 := by rw [e7, e]
    refine ⟨by rw [e1, e], by rw [e0, e], fun h => absurd hp h, fun h => by omega, fun h => by omega, fun _ _ n hn => by show ¬ btR (q7 (hC x q l)) _ = 1; rw [eh]; exact bt_zero n hn, fun j hj => ⟨(bst (mNo q) (q4 q) (q5 q) (q6 q) (mTi l) (mWh l) (mDa l)).2, ?_, by rw [ep]; decide⟩, fun _ => by rw [eb]; exact b1, fun _ h => by omega, fun _ _ => ⟨by rcases kinds with h' | h'; exact h'.2; omega, by have := wt.2.2.1; omega, hF, (bst (mNo q) (q4 q) (q5 q) (q6 q) (mTi l) (mWh l) (mDa l)).1, b1, b2 hp, fun h => absurd h hk, fun _ => eb⟩⟩
    rw [e9, e, eb]
    rfl
/-- what is common to all that a message that comes to an operation does -/
theorem hear_of {x : CL} (h : Rt x) (hw : Wf x) {i : Nat} (hi : i < x.d) : opOf (x.nt i) < x.b ∧ nodeOf (x.nt i) < x.m ∧ Heard x (x.ak (opOf (x.nt i))) (x.nt i) (hC x (x.ak (opOf (x.nt i))) (x.nt i)) ∧ mKd (x.ak (opOf (x.nt i))) = (opOf (x.nt i) : Int) := by
  have hm := ne_iff.1 (h.nex i hi)
  obtain ⟨r1, r2, r3, r4, -⟩ := mchk_rng hm.1
  have ho : opOf (x.nt i) < x.b := by show (mOp (x.nt i)).toNat < x.b; omega
  have hn : nodeOf (x.nt i) < x.m := by show (mNo (x.nt i)).toNat < x.m; have := h.am; omega
  obtain ⟨a1, a2, -⟩ := as_iff.1 (h.asx _ ho)
  exact ⟨ho, hn, heard_all a2 hm.1 (hw _ ho), a1⟩
theorem op_lt {x : CL} (h : Rt x) {j : Nat} (hj : j < x.d) : opOf (x.nt j) < x.b := by
  have hm := ne_iff.1 (h.nex j hj)
  have := (mchk_rng hm.1).1
  show (mOp (x.nt j)).toNat < x.b
  omega
theorem stS_nd {x : CL} (h : Rt x) {i : Nat} (hi : i < x.d) (hk : mKd (x.nt i) = 1 ∨ mKd (x.nt i) = 3) (n : Nat) : sle (nSt (x.nd n)) (nSt ((stS x i).nd n)) := by
  have hm := ne_iff.1 (h.nex i hi)
  obtain ⟨r1, r2, r3, r4, -⟩ := mchk_rng hm.1
  show sle (nSt (x.nd n)) (nSt (updG x.nd (nodeOf (x.nt i)) (sC (x.nd (nodeOf (x.nt i))) (x.nt i)) n))
  rw [updG_at]
  split
  · rename_i e
    subst e
    have hp : cck ((pT (x.nd (nodeOf (x.nt i))), pW (x.nd (nodeOf (x.nt i)))), pS (x.nd (nodeOf (x.nt i)))) = 0 := h.nox _ (by show (mNo (x.nt i)).toNat < x.a; omega)
    obtain ⟨s1, s3⟩ := sv_full hp hm.1
    rcases hk with hk | hk
    · rw [(s1 hk).1]; exact sle_refl _
    · exact (s3 hk).1
  · exact sle_refl _
theorem kept_step {x y : CL} (h : Rt x) (hw : Wf x) (hs : Steps x y) (k : Kept x) : Kept y := by
  have h12 := h.m12
  rcases hs with ⟨kd, dt, _, _, _, rfl⟩ | ⟨i, hi, rfl⟩ | ⟨i, hi, rfl⟩ | ⟨i, hi, hk, rfl⟩ | ⟨i, hi, hk, rfl⟩
  · have old : ∀ o, o < x.b → (stB x kd dt).ak o = x.ak o := fun o ho => by show joinG _ _ _ _ = _; rw [joinG_at, if_pos ho]
    have new : (stB x kd dt).ak x.b = askN x kd dt := by
      show joinG _ _ _ _ = _
      rw [joinG_at, if_neg (Nat.lt_irrefl _), Nat.sub_self]
      rfl
    refine ⟨fun j hj => ?_, fun o ho hp => ?_, fun o ho hp => ?_⟩
    · have hj : j < x.d + x.m := hj
      show MsgOk _ (joinG x.d x.nt (toC 1 (x.b : Int) 0 0 ⟨#[]⟩) j)
      rcases mem_join (g := x.nt) (f := toC 1 (x.b : Int) 0 0 ⟨#[]⟩) hj with ⟨a, e⟩ | ⟨a, e⟩
      · rw [e]
        have := k.msg j a
        unfold MsgOk at this ⊢
        rw [old _ (op_lt h a)]
        exact this
      · rw [e]
        exact ⟨fun h => (by cases h), fun h => (by cases h)⟩
    · have ho : o < x.b + 1 := ho
      by_cases e : o = x.b
      · subst e
        rw [new] at hp
        exact absurd rfl hp
      · rw [old o (by omega)] at hp ⊢
        exact k.put o (by omega) hp
    · have ho : o < x.b + 1 := ho
      by_cases e : o = x.b
      · subst e
        rw [new] at hp
        cases hp
      · rw [old o (by omega)] at hp ⊢
        exact k.fin o (by omega) hp
  · refine ⟨fun j hj => ?_, k.put, k.fin⟩
    have hj : j < x.d + 1 := hj
    show MsgOk x (joinG x.d x.nt (oneG 6 (msV (x.nt i))) j)
    rcases mem_join (g := x.nt) (f := oneG 6 (msV (x.nt i))) hj with ⟨a, e⟩ | ⟨a, e⟩
    · rw [e]; exact k.msg j a
    · rw [e, show j - x.d = 0 by omega]
      exact k.msg i hi
  · refine ⟨fun j hj => ?_, k.put, k.fin⟩
    obtain ⟨j', a, e⟩ := mem_del (i := i) (g := x.nt) (show j < x.d - 1 from hj)
    show MsgOk x (delG i x.nt j)
    rw [e]
    exact k.msg j' a
  · have hm := ne_iff.1 (h.nex i hi)
    have mono := stS_nd h hi hk
    have upd : ∀ l, MsgOk x l → MsgOk (stS x i) l := fun l hl => ⟨hl.1, fun e => ⟨(hl.2 e).1, sle_tr (hl.2 e).2 (mono _)⟩⟩
    have hp : cck ((pT (x.nd (nodeOf (x.nt i))), pW (x.nd (nodeOf (x.nt i)))), pS (x.nd (nodeOf (x.nt i)))) = 0 := h.nox _ (by show (mNo (x.nt i)).toNat < x.a; have := (mchk_rng hm.1).2.2.1; omega)
    obtain ⟨s1, s3⟩ := sv_full hp hm.1
    refine ⟨fun j hj => ?_, fun o ho hq n hn hbn => sle_tr (k.put o ho hq n hn hbn) (mono n), k.fin⟩
    show MsgOk (stS x i) (joinG (x.d - 1) (delG i x.nt) (sG (x.nd (nodeOf (x.nt i))) (x.nt i)) j)
    rcases mem_join (g := delG i x.nt) (f := sG (x.nd (nodeOf (x.nt i))) (x.nt i)) (show j < x.d - 1 + sN (x.nd (nodeOf (x.nt i))) (x.nt i) from hj) with ⟨a, e⟩ | ⟨a, e⟩
    · rw [e]
      obtain ⟨j', a', e'⟩ := mem_del (i := i) (g := x.nt) a
      rw [e']
      exact upd _ (k.msg j' a')
    · rw [e]
      rcases hk with hk | hk
      · rw [(s1 hk).2 _ a]
        exact ⟨fun h => (by cases h), fun h => (by cases h)⟩
      · obtain ⟨_, g2, _, g4⟩ := s3 hk
        rw [g4 _ a]
        have km := (k.msg i hi).1 hk
        refine ⟨fun h => (by cases h), fun _ => ⟨km.1, ?_⟩⟩
        show sle (bS (x.ak (opOf (x.nt i)))) (nSt (updG x.nd (nodeOf (x.nt i)) (sC (x.nd (nodeOf (x.nt i))) (x.nt i)) (nodeOf (x.nt i))))
        rw [updG_at, if_pos rfl, ← km.2]
        exact g2
  · obtain ⟨ho, hn, H, a1⟩ := hear_of h hw hi
    obtain ⟨e1, e2⟩ := stH_ak x i
    obtain ⟨f1, f2, f3, f4, f5, -, -, -, -⟩ := heZ_same (stL x i) (x.nt i)
    have f1 : (stH x i).m = x.m := f1
    have f2 : (stH x i).w = x.w := f2
    have f3 : (stH x i).need = x.need := f3
    have f5 : (stH x i).nd = x.nd := f5
    have at_o : (stH x i).ak (opOf (x.nt i)) = hC x (x.ak (opOf (x.nt i))) (x.nt i) := by rw [e2, updG_at, if_pos rfl]
    have at_n : ∀ o, o ≠ opOf (x.nt i) → (stH x i).ak o = x.ak o := fun o hne => by rw [e2, updG_at, if_neg hne]
    have upd : ∀ l, MsgOk x l → MsgOk (stH x i) l := fun l hl => by
      unfold MsgOk at hl ⊢
      rw [f5]
      by_cases e : opOf l = opOf (x.nt i)
      · rw [e, at_o]
        rw [e] at hl
        exact ⟨fun g => ⟨(H.late (hl.1 g).1).1, (hl.1 g).2.trans (H.late (hl.1 g).1).2.1.symm⟩, fun g => ⟨(H.late (hl.2 g).1).1, by rw [(H.late (hl.2 g).1).2.1]; exact (hl.2 g).2⟩⟩
      · rw [at_n _ e]
        exact hl
    refine ⟨fun j hj => ?_, fun o hob hp n hnm hbn => ?_, fun o hob hp => ?_⟩
    · show MsgOk (stH x i) (joinG (x.d - 1) (delG i x.nt) (hG x (x.ak (opOf (x.nt i))) (x.nt i)) j)
      rcases mem_join (g := delG i x.nt) (f := hG x (x.ak (opOf (x.nt i))) (x.nt i)) (show j < x.d - 1 + hN x (x.ak (opOf (x.nt i))) (x.nt i) from hj) with ⟨a, e⟩ | ⟨a, e⟩
      · rw [e]
        obtain ⟨j', a', e'⟩ := mem_del (i := i) (g := x.nt) a
        rw [e']
        exact upd _ (k.msg j' a')
      · obtain ⟨s, g1, g2⟩ := H.sent _ a
        rw [e, g1, a1]
        have eo : opOf (mgC 3 ((opOf (x.nt i) : Nat) : Int) ((j - (x.d - 1) : Nat) : Int) (bS (hC x (x.ak (opOf (x.nt i))) (x.nt i))).1 (bS (hC x (x.ak (opOf (x.nt i))) (x.nt i))).2 s) = opOf (x.nt i) := rfl
        refine ⟨fun _ => ?_, fun h => (by cases h)⟩
        rw [eo, at_o]
        exact ⟨g2, rfl⟩
    · rw [f1] at hnm
      rw [f5]
      rw [e1] at hob
      by_cases e : o = opOf (x.nt i)
      · subst e
        rw [at_o] at hp hbn ⊢
        by_cases hq : mNo (x.ak (opOf (x.nt i))) = 1
        · exact absurd hbn (H.new1 hq hp n (by omega))
        · obtain ⟨_, g2, g3⟩ := H.late hq
          rw [g2]
          rcases (g3 n (by omega)).1 hbn with hbn | ⟨rfl, _, k4, _, _⟩
          · exact k.put _ ho hq n hnm hbn
          · exact ((k.msg i hi).2 k4).2
      · rw [at_n o e] at hp hbn ⊢
        exact k.put o hob hp n hnm hbn
    · rw [f1, f2, f3]
      rw [e1] at hob
      by_cases e : o = opOf (x.nt i)
      · subst e
        rw [at_o] at hp ⊢
        rcases H.done hp with ⟨g1, g2⟩ | g
        · rw [g2]; exact k.fin _ ho g1
        · exact g
      · rw [at_n o e] at hp ⊢
        exact k.fin o hob hp
theorem kept_new (m : Nat) (w : Nat → List Value) (need : Int) : Kept (newC m w need) := ⟨fun j hj => absurd hj (Nat.not_lt_zero j), fun o ho => absurd ho (Nat.not_lt_zero o), fun o ho => absurd ho (Nat.not_lt_zero o)⟩
abbrev tB (t : List Value) : Int := intV (hdV t)
abbrev tE (t : List Value) : Int := intV (hdV (tlV t))
/-- i was done ahead of k's begin -/
def Bef (x : CL) (i k : Nat) : Prop := i < x.b ∧ k < x.b ∧ mNo (x.ak i) = 3 ∧ tE (x.tm i) < tB (x.tm k)
structure Ord (x : CL) : Prop where
  ans : ∀ i k, Bef x i k → ∀ j, j < x.d → mKd (x.nt j) = 2 → opOf (x.nt j) = k → hb (x.ak i) (nodeOf (x.nt j)) → sle (bS (x.ak i)) (lS (x.nt j))
  one : ∀ i k, Bef x i k → mNo (x.ak k) = 1 → ∀ n, n < x.m → hb (x.ak i) n → hb (x.ak k) n → sle (bS (x.ak i)) (bS (x.ak k))
  aft : ∀ i k, Bef x i k → mNo (x.ak k) ≠ 1 → (mOp (x.ak k) = 2 → slt (bS (x.ak i)) (bS (x.ak k)) = true) ∧ (mOp (x.ak k) ≠ 2 → sle (bS (x.ak i)) (bS (x.ak k)))
theorem fits_of {x : CL} (h : Rt x) {o : Nat} (ho : o < x.b) : Fits (x.tm o) (x.ak o) x.clk := (as_iff.1 (h.asx o ho)).2.2
theorem heZ_tm (y : CL) (l : List Value) : (∀ j, tB ((heZ y l).tm j) = tB (y.tm j)) ∧ (∀ j, j ≠ opOf l → tE ((heZ y l).tm j) = tE (y.tm j)) ∧ (tE (y.tm (opOf l)) ≠ 0 → tE ((heZ y l).tm (opOf l)) = tE (y.tm (opOf l))) ∧ (tE (y.tm (opOf l)) = 0 → mNo ((heZ y l).ak (opOf l)) = 3 → tE ((heZ y l).tm (opOf l)) = y.clk) := by
  unfold heZ
  cases b1 : endB y l with
  | true =>
    cases b2 : endB2 y l with
    | true =>
      simp only [cond_true]
      have z : tE (y.tm (opOf l)) = 0 := by unfold endB2 at b2; exact beq_iff_eq.1 b2
      have up : ∀ j, (heT y l).tm j = if j = opOf l then [.int .i64 (intV (hdV (y.tm (opOf l)))), .int .i64 y.clk] else y.tm j := fun j => updG_at _ _ _ j
      refine ⟨fun j => ?_, fun j hj => ?_, fun h => absurd z h, fun _ _ => ?_⟩
      · rw [up]
        split
        · rename_i e; subst e; rfl
        · rfl
      · rw [up, if_neg hj]
      · rw [up, if_pos rfl]; rfl
    | false =>
      have z : tE (y.tm (opOf l)) ≠ 0 := by unfold endB2 at b2; simpa using b2
      exact ⟨fun _ => rfl, fun _ _ => rfl, fun _ => rfl, fun h => absurd h z⟩
  | false =>
    have z : mNo ((heY y l).ak (opOf l)) ≠ 3 := by unfold endB at b1; simpa using b1
    exact ⟨fun _ => rfl, fun _ _ => rfl, fun _ => rfl, fun _ h => absurd h z⟩
theorem ord_step {x y : CL} (h : Rt x) (hw : Wf x) (hs : Steps x y) (k : Kept x) (r : Ord x) : Ord y := by
  have h12 := h.m12
  rcases hs with ⟨kd, dt, _, _, _, rfl⟩ | ⟨i, hi, rfl⟩ | ⟨i, hi, rfl⟩ | ⟨i, hi, hk, rfl⟩ | ⟨i, hi, hk, rfl⟩
  · have old : ∀ o, o < x.b → (stB x kd dt).ak o = x.ak o := fun o ho => by show joinG _ _ _ _ = _; rw [joinG_at, if_pos ho]
    have oldt : ∀ o, o < x.b → (stB x kd dt).tm o = x.tm o := fun o ho => by show joinG _ _ _ _ = _; rw [joinG_at, if_pos (by rw [h.cb]; exact ho)]
    have new : (stB x kd dt).ak x.b = askN x kd dt := by
      show joinG _ _ _ _ = _
      rw [joinG_at, if_neg (Nat.lt_irrefl _), Nat.sub_self]
      rfl
    have bef : ∀ {i k'}, Bef (stB x kd dt) i k' → i < x.b ∧ (k' = x.b ∨ (k' < x.b ∧ Bef x i k')) := fun {i k'} hb' => by
      obtain ⟨b1, b2, b3, b4⟩ := hb'
      have b1 : i < x.b + 1 := b1
      have b2 : k' < x.b + 1 := b2
      have hi : i < x.b := by
        by_cases e : i = x.b
        · subst e
          rw [new] at b3
          cases b3
        · omega
      refine ⟨hi, ?_⟩
      by_cases e : k' = x.b
      · exact .inl e
      · refine .inr ⟨by omega, hi, by omega, ?_, ?_⟩
        · rw [old i hi] at b3; exact b3
        · rw [oldt i hi, oldt k' (by omega)] at b4; exact b4
    refine ⟨fun i k' hb' j hj => ?_, fun i k' hb' hp n hn h1 h2 => ?_, fun i k' hb' hp => ?_⟩
    · obtain ⟨hi, hk'⟩ := bef hb'
      have hj : j < x.d + x.m := hj
      show mKd (joinG x.d x.nt (toC 1 (x.b : Int) 0 0 ⟨#[]⟩) j) = 2 → opOf (joinG x.d x.nt (toC 1 (x.b : Int) 0 0 ⟨#[]⟩) j) = k' → hb ((stB x kd dt).ak i) (nodeOf (joinG x.d x.nt (toC 1 (x.b : Int) 0 0 ⟨#[]⟩) j)) → sle (bS ((stB x kd dt).ak i)) (lS (joinG x.d x.nt (toC 1 (x.b : Int) 0 0 ⟨#[]⟩) j))
      rw [old i hi]
      rcases mem_join (g := x.nt) (f := toC 1 (x.b : Int) 0 0 ⟨#[]⟩) hj with ⟨a, e⟩ | ⟨a, e⟩
      · rw [e]
        intro q1 q2
        have := op_lt h a
        rcases hk' with rfl | ⟨_, hk'⟩
        · omega
        · exact r.ans i k' hk' j a q1 q2
      · rw [e]
        exact fun q1 => by cases q1
    · obtain ⟨hi, hk'⟩ := bef hb'
      rcases hk' with rfl | ⟨hlt, hk'⟩
      · rw [new] at h2
        exact absurd h2 (bt_zero n (by show n < 64; have : n < x.m := hn; omega))
      · rw [old i hi] at h1 ⊢
        rw [old k' hlt] at h2 hp ⊢
        exact r.one i k' hk' hp n hn h1 h2
    · obtain ⟨hi, hk'⟩ := bef hb'
      rcases hk' with rfl | ⟨hlt, hk'⟩
      · rw [new] at hp
        exact absurd rfl hp
      · rw [old k' hlt] at hp ⊢
        rw [old i hi]
        exact r.aft i k' hk' hp
  · refine ⟨fun i' k' hb' j hj => ?_, r.one, r.aft⟩
    have hj : j < x.d + 1 := hj
    show mKd (joinG x.d x.nt (oneG 6 (msV (x.nt i))) j) = 2 → opOf (joinG x.d x.nt (oneG 6 (msV (x.nt i))) j) = k' → hb (x.ak i') (nodeOf (joinG x.d x.nt (oneG 6 (msV (x.nt i))) j)) → sle (bS (x.ak i')) (lS (joinG x.d x.nt (oneG 6 (msV (x.nt i))) j))
    rcases mem_join (g := x.nt) (f := oneG 6 (msV (x.nt i))) hj with ⟨a, e⟩ | ⟨a, e⟩
    · rw [e]; exact r.ans i' k' hb' j a
    · rw [e, show j - x.d = 0 by omega]
      exact r.ans i' k' hb' i hi
  · refine ⟨fun i' k' hb' j hj => ?_, r.one, r.aft⟩
    obtain ⟨j', a, e⟩ := mem_del (i := i) (g := x.nt) (show j < x.d - 1 from hj)
    show mKd (delG i x.nt j) = 2 → opOf (delG i x.nt j) = k' → hb (x.ak i') (nodeOf (delG i x.nt j)) → sle (bS (x.ak i')) (lS (delG i x.nt j))
    rw [e]
    exact r.ans i' k' hb' j' a
  · have hm := ne_iff.1 (h.nex i hi)
    obtain ⟨r1, r2, r3, r4, -⟩ := mchk_rng hm.1
    have hnm : nodeOf (x.nt i) < x.m := by show (mNo (x.nt i)).toNat < x.m; have := h.am; omega
    have hp : cck ((pT (x.nd (nodeOf (x.nt i))), pW (x.nd (nodeOf (x.nt i)))), pS (x.nd (nodeOf (x.nt i)))) = 0 := h.nox _ (by show (mNo (x.nt i)).toNat < x.a; omega)
    obtain ⟨s1, s3⟩ := sv_full hp hm.1
    refine ⟨fun i' k' hb' j hj => ?_, r.one, r.aft⟩
    have hb' : Bef x i' k' := hb'
    show mKd (joinG (x.d - 1) (delG i x.nt) (sG (x.nd (nodeOf (x.nt i))) (x.nt i)) j) = 2 → opOf (joinG (x.d - 1) (delG i x.nt) (sG (x.nd (nodeOf (x.nt i))) (x.nt i)) j) = k' → hb (x.ak i') (nodeOf (joinG (x.d - 1) (delG i x.nt) (sG (x.nd (nodeOf (x.nt i))) (x.nt i)) j)) → sle (bS (x.ak i')) (lS (joinG (x.d - 1) (delG i x.nt) (sG (x.nd (nodeOf (x.nt i))) (x.nt i)) j))
    rcases mem_join (g := delG i x.nt) (f := sG (x.nd (nodeOf (x.nt i))) (x.nt i)) (show j < x.d - 1 + sN (x.nd (nodeOf (x.nt i))) (x.nt i) from hj) with ⟨a, e⟩ | ⟨a, e⟩
    · rw [e]
      obtain ⟨j', a', e'⟩ := mem_del (i := i) (g := x.nt) a
      rw [e']
      exact r.ans i' k' hb' j' a'
    · rw [e]
      rcases hk with hk | hk
      · rw [(s1 hk).2 _ a]
        intro _ _ q3
        exact k.put i' hb'.1 (by rw [hb'.2.2.1]; decide) (nodeOf (x.nt i)) hnm q3
      · rw [(s3 hk).2.2.2 _ a]
        exact fun q1 => by cases q1
  · obtain ⟨ho, hn, H, a1⟩ := hear_of h hw hi
    obtain ⟨e1, e2⟩ := stH_ak x i
    obtain ⟨f1, f2, f3, f4, f5, -, -, -, -⟩ := heZ_same (stL x i) (x.nt i)
    obtain ⟨t1, t2, t3, t4⟩ := heZ_tm (stL x i) (x.nt i)
    have f1 : (stH x i).m = x.m := f1
    have at_o : (stH x i).ak (opOf (x.nt i)) = hC x (x.ak (opOf (x.nt i))) (x.nt i) := by rw [e2, updG_at, if_pos rfl]
    have at_n : ∀ o, o ≠ opOf (x.nt i) → (stH x i).ak o = x.ak o := fun o hne => by rw [e2, updG_at, if_neg hne]
    have t1 : ∀ j, tB ((stH x i).tm j) = tB (x.tm j) := t1
    have t2 : ∀ j, j ≠ opOf (x.nt i) → tE ((stH x i).tm j) = tE (x.tm j) := t2
    have t3 : tE (x.tm (opOf (x.nt i))) ≠ 0 → tE ((stH x i).tm (opOf (x.nt i))) = tE (x.tm (opOf (x.nt i))) := t3
    have t4 : tE (x.tm (opOf (x.nt i))) = 0 → mNo ((stH x i).ak (opOf (x.nt i))) = 3 → tE ((stH x i).tm (opOf (x.nt i))) = x.clk + 1 := t4
    -- pairs are old pairs; the one that is done is as it was
    have bef : ∀ {i' k'}, Bef (stH x i) i' k' → Bef x i' k' ∧ bS ((stH x i).ak i') = bS (x.ak i') ∧ q7 ((stH x i).ak i') = q7 (x.ak i') := fun {i' k'} hb' => by
      obtain ⟨b1, b2, b3, b4⟩ := hb'
      rw [e1] at b1 b2
      rw [t1] at b4
      by_cases e : i' = opOf (x.nt i)
      · subst e
        have fi := fits_of h ho
        have fk := fits_of h b2
        by_cases p3 : mNo (x.ak (opOf (x.nt i))) = 3
        · obtain ⟨g1, g2, g3⟩ := H.three p3
          have hz : tE (x.tm (opOf (x.nt i))) ≠ 0 := by
            have := fi.2.2.2 p3
            have := fi.1
            show intV _ ≠ 0
            omega
          rw [t3 hz] at b4
          rw [at_o]
          exact ⟨⟨b1, b2, p3, b4⟩, g2, g3⟩
        · have hz : tE (x.tm (opOf (x.nt i))) = 0 := fi.2.2.1 p3
          rw [t4 hz b3] at b4
          have := fk.2.1
          have b4 : x.clk + 1 < intV (hdV (x.tm k')) := b4
          omega
      · rw [t2 i' e] at b4
        rw [at_n i' e] at b3 ⊢
        exact ⟨⟨b1, b2, b3, b4⟩, rfl, rfl⟩
    have hbq : ∀ {p q : List Value} {n : Nat}, q7 p = q7 q → hb p n → hb q n := fun {p q n} e hh => by show btR (q7 q) _ = 1; rw [← e]; exact hh
    refine ⟨fun i' k' hb' j hj => ?_, fun i' k' hb' hp n hnm h1 h2 => ?_, fun i' k' hb' hp => ?_⟩
    · obtain ⟨bx, g2, g3⟩ := bef hb'
      show mKd (joinG (x.d - 1) (delG i x.nt) (hG x (x.ak (opOf (x.nt i))) (x.nt i)) j) = 2 → opOf (joinG (x.d - 1) (delG i x.nt) (hG x (x.ak (opOf (x.nt i))) (x.nt i)) j) = k' → hb ((stH x i).ak i') (nodeOf (joinG (x.d - 1) (delG i x.nt) (hG x (x.ak (opOf (x.nt i))) (x.nt i)) j)) → sle (bS ((stH x i).ak i')) (lS (joinG (x.d - 1) (delG i x.nt) (hG x (x.ak (opOf (x.nt i))) (x.nt i)) j))
      rw [g2]
      rcases mem_join (g := delG i x.nt) (f := hG x (x.ak (opOf (x.nt i))) (x.nt i)) (show j < x.d - 1 + hN x (x.ak (opOf (x.nt i))) (x.nt i) from hj) with ⟨a, e⟩ | ⟨a, e⟩
      · rw [e]
        obtain ⟨j', a', e'⟩ := mem_del (i := i) (g := x.nt) a
        rw [e']
        exact fun q1 q2 q3 => r.ans i' k' bx j' a' q1 q2 (hbq g3 q3)
      · obtain ⟨s, s1, _⟩ := H.sent _ a
        rw [e, s1]
        exact fun q1 => by cases q1
    · obtain ⟨bx, g2, g3⟩ := bef hb'
      rw [f1] at hnm
      rw [g2]
      have h1 := hbq g3 h1
      by_cases e : k' = opOf (x.nt i)
      · subst e
        rw [at_o] at hp h2 ⊢
        have hq1 : mNo (x.ak (opOf (x.nt i))) = 1 := Decidable.byContradiction fun hq => (H.late hq).1 hp
        rcases H.one hq1 hp n (by omega) h2 with h2 | ⟨rfl, k2, le⟩
        · exact sle_tr (r.one i' _ bx hq1 n hnm h1 h2) (H.grow hq1)
        · exact sle_tr (r.ans i' _ bx i hi k2 rfl h1) le
      · rw [at_n k' e] at hp h2 ⊢
        exact r.one i' k' bx hp n hnm h1 h2
    · obtain ⟨bx, g2, g3⟩ := bef hb'
      rw [g2]
      by_cases e : k' = opOf (x.nt i)
      · subst e
        rw [at_o] at hp ⊢
        by_cases hq : mNo (x.ak (opOf (x.nt i))) = 1
        · obtain ⟨k2, _, hen, b, c1, c2, c3, c4⟩ := H.choose hq hp
          have hfin := k.fin i' bx.1 bx.2.2.1
          obtain ⟨n, hnm, m1, m2⟩ := enough_meet h.q hfin hen
          have hm := ne_iff.1 (h.nex i hi)
          have eN : mNo (x.nt i) = ((nodeOf (x.nt i) : Nat) : Int) := (Int.toNat_of_nonneg (mchk_rng hm.1).2.2.1).symm
          have le : sle (bS (x.ak i')) b := by
            rw [eN] at m2
            rcases (bt_heard (k := nodeOf (x.nt i)) (n := n) (hw _ ho) (by omega) (by omega)).1 m2 with m2 | rfl
            · exact sle_tr (r.one i' _ bx hq n hnm m1 m2) c1
            · exact sle_tr (r.ans i' _ bx i hi k2 rfl m1) c2
          refine ⟨fun hk2 => sle_lt le (c3 (H.kind.symm.trans hk2)), fun hk2 => ?_⟩
          rw [c4 (fun hc => hk2 (H.kind.trans hc))]
          exact le
        · obtain ⟨_, g5, _⟩ := H.late hq
          rw [g5, H.kind]
          exact r.aft i' _ bx hq
      · rw [at_n k' e] at hp ⊢
        exact r.aft i' k' bx hp
theorem ord_new (m : Nat) (w : Nat → List Value) (need : Int) : Ord (newC m w need) := ⟨fun _ _ h => absurd h.1 (Nat.not_lt_zero _), fun _ _ h => absurd h.1 (Nat.not_lt_zero _), fun _ _ h => absurd h.1 (Nat.not_lt_zero _)⟩
theorem ord_all {m : Nat} {w : Nat → List Value} {need : Int} {l : Nat} (h : ranB m w need l = true) (sg : Nat → List Value) : Rt (ranC m w need l sg) ∧ Kept (ranC m w need l sg) ∧ Ord (ranC m w need l sg) := by
  obtain ⟨e, hq⟩ := ran_of h sg
  rw [e]
  have := reach (P := fun x => Kept x ∧ Ord x) hq ⟨kept_new m w need, ord_new m w need⟩ (fun x y r w' _ s p => ⟨kept_step r w' s p.1, ord_step r w' s p.1 p.2⟩) sg l
  exact ⟨this.1, this.2.2⟩
end Go.Proofs.Ytpkckgdpdnkbeaa
