/- What is read was written: step by step. All copies of a cluster: the loop of the law. -/
import Derived.Test.YtpkckgdpdnkbeaaDk
namespace Go.Proofs.Ytpkckgdpdnkbeaa
open Go.RowKit
/-- a copy that is nothing, or was written by the operation that its stamp tells -/
def Val (x : CL) (c : Cp) : Prop := (c.1 = (0, 0) ∧ c.2 = ⟨#[]⟩) ∨ (∃ o, o < x.b ∧ c.1.2 = (o : Int) ∧ 1 ≤ c.1.1 ∧ mOp (x.ak o) = 2 ∧ mNo (x.ak o) ≠ 1 ∧ bS (x.ak o) = c.1 ∧ q6 (x.ak o) = c.2 ∧ q3 (x.ak o) = c.2)
abbrev bC' (q : List Value) : Cp := (bS q, q6 q)
abbrev nC (p : List Value) : Cp := (nSt p, pS p)
abbrev lC (l : List Value) : Cp := (lS l, mDa l)
structure Vals (x : CL) : Prop where
  nodes : ∀ n, n < x.a → Val x (nC (x.nd n))
  asks : ∀ o, o < x.b → Val x (bC' (x.ak o))
  msgs : ∀ j, j < x.d → Val x (lC (x.nt j))
theorem he_val {x : CL} {q l : List Value} (hq : aChk x.m x.w x.need q = 0) (hl : mChk l = 0) :
    q3 (hC x q l) = q3 q ∧ mOp (hC x q l) = mOp q ∧ (mNo q ≠ 1 → mNo (hC x q l) ≠ 1 ∧ bC' (hC x q l) = bC' q) ∧
    (mNo q = 1 → bC' (hC x q l) = bC' q ∨ bC' (hC x q l) = lC l ∨ (mOp q = 2 ∧ mNo (hC x q l) = 2 ∧ q5 (hC x q l) = mKd q ∧ 1 ≤ q4 (hC x q l) ∧ q6 (hC x q l) = q3 q)) ∧
    ∀ j, j < hN x q l → hG x q l j = mgC 3 (mKd q) (j : Int) (bS (hC x q l)).1 (bS (hC x q l)).2 (q6 (hC x q l)) := by
  have h0 : x_achk x.m x.w x.need (mKd q) (mOp q) (mNo q) (q3 q) (q4 q) (q5 q) (q6 q) (q7 q) = 0 := hq
  have hcq := (achk_iff.1 h0).2.2.2.2.2.2.2.1
  have hcm := mchk_copy hl
  obtain ⟨-, -, b3, b4⟩ := bst_two (p := mNo q) hcq hcm
  obtain ⟨e0, e1, e2, e3, e4, e5, e6, e7, e8, e9⟩ := hH_eq x q l
  have h31 : (3 : Int) ≠ 1 := by decide
  have eb : bC' (hC x q l) = (((hH x q l).t, (hH x q l).w), (hH x q l).s) := by show ((q4 (hC x q l), q5 (hC x q l)), q6 (hC x q l)) = _; rw [e4, e5, e6]
  rcases h_cases (x := x) hq hl with ⟨_, e⟩ | ⟨ht, ⟨_, e⟩ | ⟨hF, hp, e⟩ | ⟨_, hp, hk, _, e⟩ | ⟨hF, hp, hk, hx, e⟩ | ⟨hF, hp, hk, e⟩⟩
  · exact ⟨by rw [e3, e], by rw [e1, e], fun h => ⟨by rw [e2, e]; exact h, by rw [eb, e]⟩, fun _ => .inl (by rw [eb, e]), fun j hj => by rw [e8, e] at hj; exact absurd hj (Nat.not_lt_zero j)⟩
  · refine ⟨by rw [e3, e], by rw [e1, e], fun h => ⟨by rw [e2, e]; exact h, ?_⟩, fun _ => ?_, fun j hj => by rw [e8, e] at hj; exact absurd hj (Nat.not_lt_zero j)⟩
    · rw [eb, e]
      exact b3 h
    · rw [eb, e]
      rcases b4 with b4 | b4
      · exact .inl b4
      · exact .inr (.inl b4)
  · exact ⟨by rw [e3, e], by rw [e1, e], fun h => ⟨by rw [e2, e]; exact h31, by rw [eb, e]⟩, fun _ => .inl (by rw [eb, e]), fun j hj => by rw [e8, e] at hj; exact absurd hj (Nat.not_lt_zero j)⟩
  · exact ⟨by rw [e3, e], by rw [e1, e], fun h => ⟨by rw [e2, e]; exact h, by rw [eb, e]⟩, fun _ => .inl (by rw [eb, e]), fun j hj => by rw [e8, e] at hj; exact absurd hj (Nat.not_lt_zero j)⟩
  · obtain ⟨x1, x2, x3⟩ := nxW_of hx
    refine ⟨by rw [e3, e], by rw [e1, e], fun h => absurd hp h, fun _ => .inr (.inr ⟨hk, by rw [e2, e], ?_, ?_, by rw [e6, e]⟩), fun j _ => ?_⟩
    · rw [e5, e]; exact x1
    · rw [e4, e]
      show 1 ≤ nxT _ _ _
      rw [x2]
      omega
    · show hG x q l j = mgC 3 (mKd q) (j : Int) (q4 (hC x q l)) (q5 (hC x q l)) (q6 (hC x q l))
      rw [e9, e4, e5, e6, e]
      rfl
  · refine ⟨by rw [e3, e], by rw [e1, e], fun h => absurd hp h, fun _ => ?_, fun j _ => ?_⟩
    · rw [eb, e]
      rcases b4 with b4 | b4
      · exact .inl b4
      · exact .inr (.inl b4)
    · show hG x q l j = mgC 3 (mKd q) (j : Int) (q4 (hC x q l)) (q5 (hC x q l)) (q6 (hC x q l))
      rw [e9, e4, e5, e6, e]
      rfl
theorem vals_step {x y : CL} (h : Rt x) (hs : Steps x y) (v : Vals x) : Vals y := by
  rcases hs with ⟨kd, dt, _, _, _, rfl⟩ | ⟨i, hi, rfl⟩ | ⟨i, hi, rfl⟩ | ⟨i, hi, hk, rfl⟩ | ⟨i, hi, hk, rfl⟩
  · have old : ∀ o, o < x.b → (stB x kd dt).ak o = x.ak o := fun o ho => by show joinG _ _ _ _ = _; rw [joinG_at, if_pos ho]
    have new : (stB x kd dt).ak x.b = askN x kd dt := by
      show joinG _ _ _ _ = _
      rw [joinG_at, if_neg (Nat.lt_irrefl _), Nat.sub_self]
      rfl
    have up : ∀ c, Val x c → Val (stB x kd dt) c := fun c hc => by
      rcases hc with hc | ⟨o, ho, r⟩
      · exact .inl hc
      · exact .inr ⟨o, by show o < x.b + 1; omega, by rw [old o ho]; exact r⟩
    refine ⟨fun n hn => up _ (v.nodes n hn), fun o ho => ?_, fun j hj => ?_⟩
    · have ho : o < x.b + 1 := ho
      by_cases e : o = x.b
      · subst e
        rw [new]
        exact .inl ⟨rfl, rfl⟩
      · rw [old o (by omega)]
        exact up _ (v.asks o (by omega))
    · show Val (stB x kd dt) (lC (joinG x.d x.nt (toC 1 (x.b : Int) 0 0 ⟨#[]⟩) j))
      rcases mem_join (g := x.nt) (f := toC 1 (x.b : Int) 0 0 ⟨#[]⟩) (show j < x.d + x.m from hj) with ⟨a, e⟩ | ⟨a, e⟩
      · rw [e]; exact up _ (v.msgs j a)
      · rw [e]; exact .inl ⟨rfl, rfl⟩
  · refine ⟨v.nodes, v.asks, fun j hj => ?_⟩
    show Val x (lC (joinG x.d x.nt (oneG 6 (msV (x.nt i))) j))
    rcases mem_join (g := x.nt) (f := oneG 6 (msV (x.nt i))) (show j < x.d + 1 from hj) with ⟨a, e⟩ | ⟨a, e⟩
    · rw [e]; exact v.msgs j a
    · rw [e, show j - x.d = 0 by omega]
      exact v.msgs i hi
  · refine ⟨v.nodes, v.asks, fun j hj => ?_⟩
    obtain ⟨j', a, e⟩ := mem_del (i := i) (g := x.nt) (show j < x.d - 1 from hj)
    show Val x (lC (delG i x.nt j))
    rw [e]
    exact v.msgs j' a
  · have hm := ne_iff.1 (h.nex i hi)
    obtain ⟨r1, r2, r3, r4, -⟩ := mchk_rng hm.1
    have hna : nodeOf (x.nt i) < x.a := by show (mNo (x.nt i)).toNat < x.a; omega
    have hp : cck ((pT (x.nd (nodeOf (x.nt i))), pW (x.nd (nodeOf (x.nt i)))), pS (x.nd (nodeOf (x.nt i)))) = 0 := h.nox _ hna
    obtain ⟨s1, s3⟩ := sv_full hp hm.1
    have vp := v.nodes _ hna
    refine ⟨fun n hn => ?_, v.asks, fun j hj => ?_⟩
    · show Val x (nC (updG x.nd (nodeOf (x.nt i)) (sC (x.nd (nodeOf (x.nt i))) (x.nt i)) n))
      rw [updG_at]
      split
      · rcases hk with hk | hk
        · rw [(s1 hk).1]; exact vp
        · rcases (s3 hk).2.2.1 with e | e
          · rw [e]; exact vp
          · rw [e]; exact v.msgs i hi
      · exact v.nodes n hn
    · show Val x (lC (joinG (x.d - 1) (delG i x.nt) (sG (x.nd (nodeOf (x.nt i))) (x.nt i)) j))
      rcases mem_join (g := delG i x.nt) (f := sG (x.nd (nodeOf (x.nt i))) (x.nt i)) (show j < x.d - 1 + sN (x.nd (nodeOf (x.nt i))) (x.nt i) from hj) with ⟨a, e⟩ | ⟨a, e⟩
      · rw [e]
        obtain ⟨j', a', e'⟩ := mem_del (i := i) (g := x.nt) a
        rw [e']
        exact v.msgs j' a'
      · rw [e]
        rcases hk with hk | hk
        · rw [(s1 hk).2 _ a]; exact vp
        · rw [(s3 hk).2.2.2 _ a]; exact .inl ⟨rfl, rfl⟩
  · have hm := ne_iff.1 (h.nex i hi)
    have ho := op_lt h hi
    obtain ⟨a1, a2, -⟩ := as_iff.1 (h.asx _ ho)
    obtain ⟨c1, c2, c3, c4, c5⟩ := he_val (x := x) a2 hm.1
    obtain ⟨e1, e2⟩ := stH_ak x i
    obtain ⟨f1, f2, f3, f4, f5, -, -, -, -⟩ := heZ_same (stL x i) (x.nt i)
    have f4 : (stH x i).a = x.a := f4
    have f5 : (stH x i).nd = x.nd := f5
    have at_o : (stH x i).ak (opOf (x.nt i)) = hC x (x.ak (opOf (x.nt i))) (x.nt i) := by rw [e2, updG_at, if_pos rfl]
    have at_n : ∀ o, o ≠ opOf (x.nt i) → (stH x i).ak o = x.ak o := fun o hne => by rw [e2, updG_at, if_neg hne]
    have up : ∀ c, Val x c → Val (stH x i) c := fun c hc => by
      rcases hc with hc | ⟨o, hob, g1, g2, g3, g4, g5, g6, g7⟩
      · exact .inl hc
      · refine .inr ⟨o, by rw [e1]; exact hob, g1, g2, ?_⟩
        by_cases e : o = opOf (x.nt i)
        · subst e
          rw [at_o]
          obtain ⟨k1, k2⟩ := c3 g4
          have k3 : bS (hC x (x.ak (opOf (x.nt i))) (x.nt i)) = bS (x.ak (opOf (x.nt i))) := congrArg Prod.fst k2
          have k4 : q6 (hC x (x.ak (opOf (x.nt i))) (x.nt i)) = q6 (x.ak (opOf (x.nt i))) := congrArg Prod.snd k2
          exact ⟨c2.trans g3, k1, k3.trans g5, k4.trans g6, c1.trans g7⟩
        · rw [at_n o e]
          exact ⟨g3, g4, g5, g6, g7⟩
    have vo : Val (stH x i) (bC' (hC x (x.ak (opOf (x.nt i))) (x.nt i))) := by
      by_cases hq : mNo (x.ak (opOf (x.nt i))) = 1
      · rcases c4 hq with e | e | ⟨g1, g2, g3, g4, g5⟩
        · rw [e]; exact up _ (v.asks _ ho)
        · rw [e]; exact up _ (v.msgs i hi)
        · refine .inr ⟨opOf (x.nt i), by rw [e1]; exact ho, g3.trans a1, g4, ?_⟩
          rw [at_o]
          exact ⟨c2.trans g1, by rw [g2]; decide, rfl, rfl, c1.trans g5.symm⟩
      · rw [(c3 hq).2]
        exact up _ (v.asks _ ho)
    refine ⟨fun n hn => ?_, fun o hob => ?_, fun j hj => ?_⟩
    · rw [f4] at hn
      rw [f5]
      exact up _ (v.nodes n hn)
    · rw [e1] at hob
      by_cases e : o = opOf (x.nt i)
      · subst e
        rw [at_o]
        exact vo
      · rw [at_n o e]
        exact up _ (v.asks o hob)
    · show Val (stH x i) (lC (joinG (x.d - 1) (delG i x.nt) (hG x (x.ak (opOf (x.nt i))) (x.nt i)) j))
      rcases mem_join (g := delG i x.nt) (f := hG x (x.ak (opOf (x.nt i))) (x.nt i)) (show j < x.d - 1 + hN x (x.ak (opOf (x.nt i))) (x.nt i) from hj) with ⟨a, e⟩ | ⟨a, e⟩
      · rw [e]
        obtain ⟨j', a', e'⟩ := mem_del (i := i) (g := x.nt) a
        rw [e']
        exact up _ (v.msgs j' a')
      · rw [e, c5 _ a]
        exact vo
theorem vals_all {m : Nat} {w : Nat → List Value} {need : Int} {l : Nat} (h : ranB m w need l = true) (sg : Nat → List Value) : Rt (ranC m w need l sg) ∧ Vals (ranC m w need l sg) := by
  obtain ⟨e, hq⟩ := ran_of h sg
  rw [e]
  have := reach (P := Vals) hq ⟨fun n hn => .inl ⟨rfl, rfl⟩, fun o ho => absurd ho (Nat.not_lt_zero o), fun j hj => absurd hj (Nat.not_lt_zero j)⟩ (fun x y r _ _ s p => vals_step r s p) sg l
  exact ⟨this.1, this.2.2⟩
def keepVa : AE → List Nat
  | .normal => [2, 7, 9, 10]
  | .exit _ => [2, 7, 9]
  | .ret => []
abbrev vaB (m l : Nat) (w sg : Nat → List Value) (need : Int) (C : CL) : List AObj := keH m l w sg need C ++ [.gone]
abbrev vaA (m l : Nat) (w sg : Nat → List Value) (need : Int) (C : CL) (n : Nat) (g : Nat → List Value) : List AObj := vaB m l w sg need C ++ [.row 50 cpK n g]
abbrev vaC (m l : Nat) (w sg : Nat → List Value) (need : Int) (C : CL) (n : Nat) (g : Nat → List Value) : List AObj := vaB m l w sg need C ++ [.gone, .row 50 cpK n g]
abbrev vaV (i : Int) (r n : Nat) (k : Int) : List Value := [.int .i64 i, .pointer (some ⟨9, 0, none⟩), .slice (some ⟨r, 0, some 0⟩) n n, .int .i64 k]
abbrev bestC (q : List Value) : List Value := [.int .i64 (q4 q), .int .i64 (q5 q), .string (q6 q)]
/-- all copies, the first k operations' too -/
def gA (C : CL) (n0 : Nat) (g0 : Nat → List Value) : Nat → Nat → List Value
  | 0 => g0
  | k + 1 => joinG (n0 + k) (gA C n0 g0 k) (oneG 3 (bestC (C.ak k)))
def vaO (C : CL) (i : Int) (r n k : Nat) (now : List AObj) (next : Nat → (Nat → List Value) → List AObj) (g : Nat → List Value) : Out :=
  tst (decide ((k : Int) < (C.b : Int))) (.ask (0 ≤ (k : Int) ∧ (k : Int) < (C.b : Int)) (.ask (k < C.b) (.ask (n ≤ n) (.ask (1 + 0 ≤ 1 ∧ 1 ≤ 140737488355328) (.ask ((n + 1) * 32 ≤ 140737488355328)
    (.done .normal ⟨someL (vaV i 12 (n + 1) (inc (k : Int))), next (n + 1) (joinG n g (oneG 3 (bestC (C.ak k))))⟩))))))
    (.done (.exit 0) ⟨someL [.int .i64 i, .pointer (some ⟨9, 0, none⟩), .slice (some ⟨r, 0, some 0⟩) n n], now⟩)
set_option maxRecDepth 100000 in
theorem run_vaA (m l k n : Nat) (w sg g : Nat → List Value) (need i : Int) (C : CL) : ev K40 noL (bodyOf Try.f6 0) ⟨mkSlots 109 [2, 7, 9, 10] (vaV i 11 n (k : Int)), vaA m l w sg need C n g⟩ (pkG 109 keepVa 12) = vaO C i 11 n k (vaA m l w sg need C n g) (vaC m l w sg need C) g := by kernel_rfl
set_option maxRecDepth 100000 in
theorem run_vaC (m l k n : Nat) (w sg g : Nat → List Value) (need i : Int) (C : CL) : ev K40 noL (bodyOf Try.f6 0) ⟨mkSlots 109 [2, 7, 9, 10] (vaV i 12 n (k : Int)), vaC m l w sg need C n g⟩ (pkG 109 keepVa 12) = vaO C i 12 n k (vaC m l w sg need C n g) (vaC m l w sg need C) g := by kernel_rfl
def vaK (m l : Nat) (w sg : Nat → List Value) (need i : Int) (C : CL) (n0 : Nat) (g0 : Nat → List Value) (vs : List Value) (H : List AObj) (k : AE → List Value → List AObj → Out) : Out :=
  .ask (vs = vaV i 11 n0 0 ∧ H = vaA m l w sg need C n0 g0 ∧ n0 ≤ 1000 ∧ C.b ≤ 1000) (tst (Nat.beq C.b 0) (k (.exit 0) [.int .i64 i, .pointer (some ⟨9, 0, none⟩), .slice (some ⟨11, 0, some 0⟩) n0 n0] (vaA m l w sg need C n0 g0))
    (k (.exit 0) [.int .i64 i, .pointer (some ⟨9, 0, none⟩), .slice (some ⟨12, 0, some 0⟩) (n0 + C.b) (n0 + C.b)] (vaC m l w sg need C (n0 + C.b) (gA C n0 g0 C.b))))
def gVaL (vs : List Value) (H : List AObj) (k : AE → List Value → List AObj → Out) : Out :=
  match vs with
  | [.int _ i, _, _, _] => (match H with
    | [.recs _ m w, .recs _ l sg, .cells _ [_, .int _ need], .row _ _ cm cw, .row _ _ ca cnd, .row _ _ cb cak, .row _ _ cc ctm, .row _ _ cd cnt, _, .cells _ [_, .int _ cneed, _, _, _, _, .int _ cclk], _, .row _ _ n0 g0] => vaK m l w sg need i ⟨cm, cw, cneed, ca, cnd, cb, cak, cc, ctm, cd, cnt, cclk⟩ n0 g0 vs H k
    | _ => .bad)
  | _ => .bad
def lVa : Nat → Option LCon := oneL 8 (lspec 109 keepVa 12 gVaL)
set_option maxRecDepth 100000 in
theorem va_aux {Φ : Lf} {k : AE → List Value → List AObj → Out} {m l : Nat} {w sg : Nat → List Value} {need i : Int} {C : CL} {n0 : Nat} {g0 : Nat → List Value} {vs : List Value} {H : List AObj} (h : (vaK m l w sg need i C n0 g0 vs H k).sat Φ) : ∃ (ι : Type) (I : ι → List Value) (J : ι → List AObj) (μ : ι → Nat) (i0 : ι), I i0 = vs ∧ J i0 = H ∧
    ∀ i, (ev K40 noL (bodyOf Try.f6 0) ⟨mkSlots 109 (keepVa .normal) (I i), J i⟩ (pkG 109 keepVa 12)).sat fun e S => match e with
      | .normal => ∃ i', S.slots = someL (I i') ∧ S.heap = J i' ∧ μ i' < μ i
      | e => ∃ vs, S.slots = someL vs ∧ (k e vs S.heap).sat Φ := by
  unfold vaK at h
  obtain ⟨⟨e1, e2, hn, hb⟩, h⟩ := h
  refine ⟨{j : Nat // j ≤ C.b}, fun j => vaV i (bif Nat.beq j.1 0 then 11 else 12) (n0 + j.1) (j.1 : Int), fun j => bif Nat.beq j.1 0 then vaA m l w sg need C n0 g0 else vaC m l w sg need C (n0 + j.1) (gA C n0 g0 j.1), fun j => C.b - j.1, ⟨0, by omega⟩, e1.symm, e2.symm, ?_⟩
  rintro ⟨j, hj⟩
  have key : ∀ r now, (j = C.b → (k (.exit 0) [.int .i64 i, .pointer (some ⟨9, 0, none⟩), .slice (some ⟨r, 0, some 0⟩) (n0 + j) (n0 + j)] now).sat Φ) → (vaO C i r (n0 + j) j now (vaC m l w sg need C) (gA C n0 g0 j)).sat fun e S => match e with
      | .normal => ∃ i' : {j : Nat // j ≤ C.b}, S.slots = someL (vaV i (bif Nat.beq i'.1 0 then 11 else 12) (n0 + i'.1) (i'.1 : Int)) ∧ S.heap = (bif Nat.beq i'.1 0 then vaA m l w sg need C n0 g0 else vaC m l w sg need C (n0 + i'.1) (gA C n0 g0 i'.1)) ∧ C.b - i'.1 < C.b - j
      | e => ∃ vs, S.slots = someL vs ∧ (k e vs S.heap).sat Φ := fun r now hx => by
    refine sat_tst (fun ht => ?_) (fun ht => ?_)
    · have hlt : j < C.b := by have := of_decide_eq_true ht; omega
      refine sat_ask ⟨by omega, by omega⟩ (sat_ask hlt (sat_ask (Nat.le_refl _) (sat_ask ⟨by omega, by omega⟩ (sat_ask (by omega) ?_))))
      refine ⟨⟨j + 1, by omega⟩, ?_, rfl, by show C.b - (j + 1) < C.b - j; omega⟩
      show someL (vaV i 12 (n0 + j + 1) (inc (j : Int))) = someL (vaV i 12 (n0 + (j + 1)) ((j + 1 : Nat) : Int))
      rw [wrap_n (n := 1000) (k := j) (by omega) (by omega)]
      rfl
    · have hge : j = C.b := by have := of_decide_eq_false ht; omega
      exact ⟨_, rfl, hx hge⟩
  show (ev K40 noL _ ⟨mkSlots 109 [2, 7, 9, 10] (vaV i (bif Nat.beq j 0 then 11 else 12) (n0 + j) (j : Int)), bif Nat.beq j 0 then vaA m l w sg need C n0 g0 else vaC m l w sg need C (n0 + j) (gA C n0 g0 j)⟩ (pkG 109 keepVa 12)).sat _
  cases hz : Nat.beq j 0 with
  | true =>
    have ej : j = 0 := Nat.eq_of_beq_eq_true hz
    subst ej
    rw [cond_true, cond_true]
    have run := run_vaA m l 0 n0 w sg g0 need i C
    show (ev K40 noL _ ⟨mkSlots 109 [2, 7, 9, 10] (vaV i 11 n0 ((0 : Nat) : Int)), vaA m l w sg need C n0 g0⟩ (pkG 109 keepVa 12)).sat _
    rw [run]
    refine key 11 _ fun hb0 => ?_
    rcases tst_sat h with ⟨_, h⟩ | ⟨hz', _⟩
    · exact h
    · rw [← hb0] at hz'; cases hz'
  | false =>
    rw [cond_false, cond_false, run_vaC]
    refine key 12 _ fun hb0 => ?_
    rcases tst_sat h with ⟨hz', _⟩ | ⟨_, h⟩
    · rw [← hb0, hz] at hz'; cases hz'
    · rw [hb0]; exact h
theorem loop_va : LOk K40.P (bodyOf Try.f6 0) (lspec 109 keepVa 12 gVaL) := lspec_ok K40_ok (L := noL) (fun c' _ F h => by cases h) fun Φ vs H k hm0 h => by
  unfold gVaL at h
  split at h
  · split at h
    · exact va_aux h
    · exact h.elim
  · exact h.elim
theorem lVa_ok : ∀ F, lVa (key (bodyOf Try.f6 0)) = some F → LOk K40.P (bodyOf Try.f6 0) F := fun F h => by
  have hk : lVa (key (bodyOf Try.f6 0)) = some (lspec 109 keepVa 12 gVaL) := by kernel_rfl
  rw [hk] at h
  cases h
  exact loop_va
theorem gA_at (C : CL) (n0 : Nat) (g0 : Nat → List Value) : ∀ k j, j < n0 + k → (j < n0 ∧ gA C n0 g0 k j = g0 j) ∨ (n0 ≤ j ∧ j - n0 < k ∧ gA C n0 g0 k j = bestC (C.ak (j - n0)))
  | 0, j, h => .inl ⟨h, rfl⟩
  | k + 1, j, h => by
    show (_ ∧ joinG (n0 + k) (gA C n0 g0 k) (oneG 3 (bestC (C.ak k))) j = _) ∨ (_ ∧ _ ∧ joinG (n0 + k) (gA C n0 g0 k) (oneG 3 (bestC (C.ak k))) j = _)
    rw [joinG_at]
    by_cases c : j < n0 + k
    · rw [if_pos c]
      rcases gA_at C n0 g0 k j c with ⟨a, e⟩ | ⟨a, b, e⟩
      · exact .inl ⟨a, e⟩
      · exact .inr ⟨a, by omega, e⟩
    · rw [if_neg c]
      have e : j = n0 + k := by omega
      subst e
      refine .inr ⟨by omega, by omega, ?_⟩
      rw [Nat.sub_self, show n0 + k - n0 = k by omega]
      rfl
end Go.Proofs.Ytpkckgdpdnkbeaa
