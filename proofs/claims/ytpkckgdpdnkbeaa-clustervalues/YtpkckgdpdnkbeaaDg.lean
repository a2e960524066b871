/- Steps, one by one: what is to be shown. A right cluster stays right. A right cluster stays right: messages that come. New, Do, Run: what is to be shown; the loop of Run. -/
import Derived.Test.YtpkckgdpdnkbeaaDe
import Derived.Test.YtpkckgdpdnkbeaaDf
namespace Go.Proofs.Ytpkckgdpdnkbeaa
open Go.RowKit
abbrev spK : List LK := [.kInt .i64, .kInt .i64, .kStr]
def keepRun : AE → List Nat
  | .normal => [4, 8, 9, 26, 27, 28]
  | .exit _ => [4, 8, 9]
  | .ret => []
abbrev rowsAt (y : CL) : List AObj := [.row 3 wtK y.m y.w, .row 50 cpK y.a y.nd, .row 53 asK y.b y.ak, .row 55 tmK y.c y.tm, .row 68 msK y.d y.nt]
abbrev clAt (y : CL) (i : Nat) : List Value := [.slice (some ⟨i, 0, some 0⟩) y.m y.m, .int .i64 y.need, .slice (some ⟨i + 1, 0, some 0⟩) y.a y.a, .slice (some ⟨i + 2, 0, some 0⟩) y.b y.b, .slice (some ⟨i + 3, 0, some 0⟩) y.c y.c, .slice (some ⟨i + 4, 0, some 0⟩) y.d y.d, .int .i64 y.clk]
abbrev noV : List Value := [.slice none 0 0, .int .i64 0, .slice none 0 0, .slice none 0 0, .slice none 0 0, .slice none 0 0, .int .i64 0]
/-- memory ahead of the cluster as it is now -/
abbrev runH (x : CL) (l : Nat) (sg : Nat → List Value) : List AObj := x.heap ++ [.recs spK l sg, .cells 30 (clAt x 0), .cells 30 noV] ++ rowsAt x ++ [.gone]
/-- the cluster as it is now: at its first place, or behind all -/
abbrev nowA (x : CL) (l : Nat) (sg : Nat → List Value) : List AObj := runH x l sg ++ [.cells 30 (clAt x 8)]
abbrev nowB (x y : CL) (l : Nat) (sg : Nat → List Value) : List AObj := runH x l sg ++ [.cells 30 (clAt y 15)] ++ rowsAt y
abbrev runV (l : Nat) (n z : Int) : List Value := [.pointer (some ⟨7, 0, none⟩), .pointer (some ⟨14, 0, none⟩), .int .i64 n, .slice (some ⟨5, 0, some 0⟩) l l, .int .i64 l, .int .i64 z]
def Wf (x : CL) : Prop := ∀ j, j < x.b → (Lit.int .u64 (q7 (x.ak j))).wf = true
/-- a term that fits -/
def Fits (t l : List Value) (clk : Int) : Prop := 1 ≤ intV (hdV t) ∧ intV (hdV t) ≤ clk ∧ (mNo l ≠ 3 → intV (hdV (tlV t)) = 0) ∧ (mNo l = 3 → intV (hdV t) ≤ intV (hdV (tlV t)) ∧ intV (hdV (tlV t)) ≤ clk)
theorem fit_iff {t l : List Value} {clk : Int} : aFit t l clk = true ↔ Fits t l clk := by
  unfold aFit x_fits Fits
  by_cases h1 : intV (hdV t) < 1
  · rw [decide_eq_true h1, cond_true]
    constructor
    · intro h; cases h
    · intro h; omega
  rw [decide_eq_false h1, cond_false]
  by_cases h2 : intV (hdV t) > clk
  · rw [decide_eq_true h2, cond_true]
    constructor
    · intro h; cases h
    · intro h; omega
  rw [decide_eq_false h2, cond_false]
  by_cases h3 : mNo l = 3
  · rw [show (intV (hdV (tlV (tlV l))) == 3) = true from beq_iff_eq.2 h3, Bool.not_true, cond_false]
    by_cases h4 : intV (hdV t) ≤ intV (hdV (tlV t))
    · rw [decide_eq_true h4, cond_true, decide_eq_true_eq]
      omega
    · rw [decide_eq_false h4, cond_false]
      constructor
      · intro h; cases h
      · intro h; omega
  · rw [show (intV (hdV (tlV (tlV l))) == 3) = false from beq_eq_false_iff_ne.2 h3, Bool.not_false, cond_true, beq_iff_eq]
    omega
theorem as_iff {m : Nat} {w : Nat → List Value} {need : Int} {ak tm : Nat → List Value} {clk : Int} {j : Nat} : asE m w need ak tm clk j = 0 ↔ (mKd (ak j) = (j : Int) ∧ aChk m w need (ak j) = 0 ∧ Fits (tm j) (ak j) clk) := by
  unfold asE
  constructor
  · intro h
    obtain ⟨h1, h⟩ := bif_k (by decide) h
    obtain ⟨h2, h⟩ := bif_ne h
    obtain ⟨h3, -⟩ := bif_k (by decide) h
    exact ⟨bne_f2 h1, h2, fit_iff.1 (by simpa using h3)⟩
  · rintro ⟨h1, h2, h3⟩
    rw [show (intV (hdV (ak j)) != (j : Int)) = false from by rw [show intV (hdV (ak j)) = (j : Int) from h1]; simp, h2, fit_iff.2 h3]
    rfl
theorem ne_iff {a b : Nat} {nt : Nat → List Value} {j : Nat} : neE a b nt j = 0 ↔ (mChk (nt j) = 0 ∧ mNo (nt j) < (a : Int) ∧ mOp (nt j) < (b : Int)) := by
  unfold neE
  constructor
  · intro h1
    obtain ⟨h2, h1⟩ := bif_ne h1
    obtain ⟨h3, h1⟩ := bif_k (by decide) h1
    obtain ⟨h4, -⟩ := bif_k (by decide) h1
    have h3 := of_decide_eq_false h3
    have h4 := of_decide_eq_false h4
    exact ⟨h2, by show intV _ < _; omega, by show intV _ < _; omega⟩
  · rintro ⟨h1, h2, h3⟩
    have h2 : intV (hdV (tlV (tlV (nt j)))) < (a : Int) := h2
    have h3 : intV (hdV (tlV (nt j))) < (b : Int) := h3
    rw [h1, decide_eq_false (show ¬ intV (hdV (tlV (tlV (nt j)))) ≥ (a : Int) by omega), decide_eq_false (show ¬ intV (hdV (tlV (nt j))) ≥ (b : Int) by omega)]
    rfl
theorem Fits.mono {t l : List Value} {c c' : Int} (h : Fits t l c) (hc : c ≤ c') : Fits t l c' := by unfold Fits at *; omega
theorem inc_eq {x : CL} (h : Rt x) (_hk : x.clk ≠ 1000000) : inc x.clk = x.clk + 1 := by
  have := h.c0
  have := h.c1
  show IntKind.wrap .i64 (x.clk + 1) = _
  rw [IntKind.wrap_i64]
  omega
theorem inc_rt {x : CL} (h : Rt x) (hk : x.clk ≠ 1000000) : Rt (incY x) := by
  have e := inc_eq h hk
  have h0 := h.c0
  have h1 := h.c1
  refine ⟨h.q, h.am, h.nox, h.b31, h.cb, fun j hj => ?_, h.d200, h.nex, ?_, ?_⟩
  · obtain ⟨a1, a2, a3⟩ := as_iff.1 (h.asx j hj)
    exact as_iff.2 ⟨a1, a2, a3.mono (by show x.clk ≤ inc x.clk; omega)⟩
  · show 0 ≤ inc x.clk; omega
  · show inc x.clk ≤ 1000000; omega
theorem delG_at (i : Nat) (g : Nat → List Value) (j : Nat) : delG i g j = if j < i then g j else g (j + 1) := by
  unfold delG joinG
  by_cases h : j < i
  · rw [if_pos h, show Nat.blt j i = true from by rw [Nat.blt_eq]; exact h]; rfl
  · rw [if_neg h, show Nat.blt j i = false from by
      cases e : Nat.blt j i with
      | false => rfl
      | true => rw [Nat.blt_eq] at e; omega]
    show g (i + 1 + (j - i)) = g (j + 1)
    congr 1
    omega
theorem joinG_at (n : Nat) (g f : Nat → List Value) (j : Nat) : joinG n g f j = if j < n then g j else f (j - n) := by
  unfold joinG
  by_cases h : j < n
  · rw [if_pos h, show Nat.blt j n = true from by rw [Nat.blt_eq]; exact h]; rfl
  · rw [if_neg h, show Nat.blt j n = false from by
      cases e : Nat.blt j n with
      | false => rfl
      | true => rw [Nat.blt_eq] at e; omega]
    rfl
theorem updG_at (g : Nat → List Value) (r : Nat) (v : List Value) (j : Nat) : updG g r v j = if j = r then v else g j := by
  unfold updG
  by_cases h : j = r
  · subst h
    rw [if_pos rfl, Nat.beq_refl]; rfl
  · rw [if_neg h, show Nat.beq j r = false from by
      cases e : Nat.beq j r with
      | false => rfl
      | true => rw [Nat.beq_eq] at e; omega]
    rfl
theorem del_rt {x : CL} (h : Rt x) (hk : x.clk ≠ 1000000) {n : Int} (h0 : 0 ≤ n) (hn : n < (x.d : Int)) : Rt (delY x n) := by
  have hi := inc_rt h hk
  refine ⟨hi.q, hi.am, hi.nox, hi.b31, hi.cb, hi.asx, by show x.d - 1 ≤ 200; have := h.d200; omega, fun j hj => ?_, hi.c0, hi.c1⟩
  have hj : j < x.d - 1 := hj
  have e : neE x.a x.b (delG n.toNat x.nt) j = neE x.a x.b x.nt (if j < n.toNat then j else j + 1) := by
    unfold neE
    rw [delG_at]
    split <;> rfl
  show neE x.a x.b (delG n.toNat x.nt) j = 0
  rw [e]
  split
  · exact h.nex j (by omega)
  · exact h.nex (j + 1) (by omega)
theorem much_eq {y : CL} {k : Nat} (hd : y.d ≤ 1000) (hk : k ≤ 1000) : much y k = decide (200 < y.d + k) := by
  unfold much
  rw [decide_eq_decide]
  rw [IntKind.wrap_i64]
  omega
theorem send_rt {y : CL} (h : Rt y) {k : Nat} {G : Nat → List Value} (hk : k ≤ 1000) (hG : ∀ j, j < k → neE y.a y.b G j = 0) (he : sendE y k = 0) : Rt (sendC y k G) ∧ much y k = false := by
  have hd := h.d200
  unfold sendE at he
  obtain ⟨h1, -⟩ := bif_k (by decide) he
  have h2 := h1
  rw [much_eq (by omega) hk] at h2
  have h2 := of_decide_eq_false h2
  unfold sendC
  rw [h1]
  refine ⟨⟨h.q, h.am, h.nox, h.b31, h.cb, h.asx, by show y.d + k ≤ 200; omega, fun j hj => ?_, h.c0, h.c1⟩, rfl⟩
  have hj : j < y.d + k := hj
  show neE y.a y.b (joinG y.d y.nt G) j = 0
  have e : neE y.a y.b (joinG y.d y.nt G) j = if j < y.d then neE y.a y.b y.nt j else neE y.a y.b G (j - y.d) := by
    unfold neE
    rw [joinG_at]
    split <;> rfl
  rw [e]
  split
  · exact h.nex j (by assumption)
  · exact hG _ (by omega)
theorem mchk_of {k o n t w : Int} {s : ByteArray} (hk : x_wkind k = true) (h1 : 0 ≤ o) (h2 : o < 31) (h3 : 0 ≤ n) (h4 : n < 12) (hc : cck ((t, w), s) = 0) (hz : x_wcopy k = false → t = 0 ∧ w = 0 ∧ s = ⟨#[]⟩) : mChk (mgC k o n t w s) = 0 := by
  show x_wchk k o n t w s = 0
  unfold x_wchk
  rw [hk, decide_eq_false (show ¬ o < 0 by omega), decide_eq_false (show ¬ o ≥ 31 by omega), decide_eq_false (show ¬ n < 0 by omega), decide_eq_false (show ¬ n ≥ 12 by omega), hc]
  cases hq : x_wcopy k with
  | true => rfl
  | false =>
    obtain ⟨rfl, rfl, rfl⟩ := hz hq
    rfl
theorem cck0 : cck (((0 : Int), (0 : Int)), ⟨#[]⟩) = 0 := by decide
theorem beg_rt {x : CL} (h : Rt x) (hk : x.clk ≠ 1000000) {k : Int} {dt : ByteArray} (he : begE x k dt = 0) : Rt (begC x k dt) := by
  have hi := inc_rt h hk
  have ei := inc_eq h hk
  have h12 := h.m12
  unfold begE at he
  obtain ⟨e1, he⟩ := bif_k (by decide) he
  obtain ⟨e2, he⟩ := bif_ne he
  have hb : x.b < 31 := by
    have := h.b31
    have : (x.b : Int) ≠ 31 := by simpa using e1
    omega
  have c0 := h.c0
  have hz : x_achk x.m x.w x.need (x.b : Int) k 1 dt 0 0 ⟨⟨[]⟩⟩ 0 = 0 := by
    have e3 : bE x k dt = 0 := e2
    unfold bE x9_begin at e3
    exact (bif_ne e3).1
  have hzb : (x_achk x.m x.w x.need (x.b : Int) k 1 dt 0 0 ⟨⟨[]⟩⟩ 0 != 0) = false := by rw [hz]; rfl
  have eC : bC x k dt = [.int .i64 (x.b : Int), .int .i64 k, .int .i64 1, .string dt, .int .i64 0, .int .i64 0, .string ⟨⟨[]⟩⟩, .int .u64 0] := by
    unfold bC x0_begin x1_begin x2_begin x3_begin x4_begin x5_begin x6_begin x7_begin
    simp only [hzb, cond_false]
  have eG : bG x k dt = toC 1 (x.b : Int) 0 0 ⟨#[]⟩ := by
    unfold bG g8_begin
    simp only [hzb, cond_false]
  have eN : bN x k dt = x.m := by
    unfold bN n8_begin
    simp only [hzb, cond_false]
  have hY : Rt (begY x k dt) := by
    refine ⟨hi.q, hi.am, hi.nox, by show x.b + 1 ≤ 31; omega, by show x.c + 1 = x.b + 1; rw [h.cb], fun j hj => ?_, hi.d200, fun j hj => ?_, hi.c0, hi.c1⟩
    · have hj : j < x.b + 1 := hj
      refine as_iff.2 ?_
      show mKd (joinG x.b x.ak (oneG 8 (bC x k dt)) j) = (j : Int) ∧ aChk x.m x.w x.need (joinG x.b x.ak (oneG 8 (bC x k dt)) j) = 0 ∧ Fits (joinG x.c x.tm (oneG 2 [.int .i64 (inc x.clk), .int .i64 0]) j) (joinG x.b x.ak (oneG 8 (bC x k dt)) j) (inc x.clk)
      rw [joinG_at, joinG_at, h.cb]
      by_cases hjb : j < x.b
      · rw [if_pos hjb, if_pos hjb]
        obtain ⟨a1, a2, a3⟩ := as_iff.1 (h.asx j hjb)
        exact ⟨a1, a2, a3.mono (by omega)⟩
      · have ej : j = x.b := by omega
        subst ej
        rw [if_neg hjb, if_neg hjb, Nat.sub_self, eC]
        refine ⟨rfl, hz, ?_⟩
        show 1 ≤ inc x.clk ∧ inc x.clk ≤ inc x.clk ∧ ((1 : Int) ≠ 3 → (0 : Int) = 0) ∧ ((1 : Int) = 3 → inc x.clk ≤ 0 ∧ (0 : Int) ≤ inc x.clk)
        refine ⟨by omega, Int.le_refl _, fun _ => rfl, fun h => by omega⟩
    · have := ne_iff.1 (h.nex j hj)
      refine ne_iff.2 ⟨this.1, this.2.1, ?_⟩
      show mOp (x.nt j) < ((x.b + 1 : Nat) : Int)
      have := this.2.2
      omega
  have hs := (send_rt hY (k := bN x k dt) (G := bG x k dt) (by rw [eN]; omega) (fun j hj => by
    rw [eN] at hj
    rw [eG]
    refine ne_iff.2 ⟨mchk_of (by decide) (by omega) (by omega) (by omega) (by omega) cck0 fun _ => ⟨rfl, rfl, rfl⟩, ?_, ?_⟩
    · show (j : Int) < (x.a : Int)
      have := h.am
      omega
    · show (x.b : Int) < ((x.b + 1 : Nat) : Int)
      omega) he).1
  unfold begC
  rw [e1, show (bE x k dt != 0) = false from by rw [e2]; rfl]
  exact hs
theorem wkind_iff {k : Int} : x_wkind k = true ↔ (1 ≤ k ∧ k ≤ 4) := by
  unfold x_wkind
  by_cases h : 1 ≤ k <;> simp [h]
theorem mchk_copy {l : List Value} (h : mChk l = 0) : cck ((mTi l, mWh l), mDa l) = 0 := (wchk_c (show x_wchk (mKd l) (mOp l) (mNo l) (mTi l) (mWh l) (mDa l) = 0 from h)).1
theorem sv_c {p l : List Value} (hp : cck ((pT p, pW p), pS p) = 0) (hl : mChk l = 0) : cck ((pT (sC p l), pW (sC p l)), pS (sC p l)) = 0 ∧ ∀ j, j < sN p l → ∃ k t w s, sG p l j = mgC k (mOp l) (mNo l) t w s ∧ (k = 2 ∨ k = 4) ∧ cck ((t, w), s) = 0 ∧ (k = 4 → t = 0 ∧ w = 0 ∧ s = ⟨#[]⟩) := by
  have hc := mchk_copy hl
  have z1 : (cck ((pT p, pW p), pS p) != 0) = false := by rw [hp]; rfl
  have z2 : (x_wchk (mKd l) (mOp l) (mNo l) (mTi l) (mWh l) (mDa l) != 0) = false := by rw [show x_wchk (mKd l) (mOp l) (mNo l) (mTi l) (mWh l) (mDa l) = 0 from hl]; rfl
  have e0 : pT (sC p l) = x0_serve (pT p) (pW p) (pS p) (mKd l) (mOp l) (mNo l) (mTi l) (mWh l) (mDa l) := rfl
  have e1 : pW (sC p l) = x1_serve (pT p) (pW p) (pS p) (mKd l) (mOp l) (mNo l) (mTi l) (mWh l) (mDa l) := rfl
  have e2 : pS (sC p l) = x2_serve (pT p) (pW p) (pS p) (mKd l) (mOp l) (mNo l) (mTi l) (mWh l) (mDa l) := rfl
  rw [e0, e1, e2]
  unfold x0_serve x1_serve x2_serve sN n3_serve sG g3_serve
  simp only [z1, z2, cond_false]
  cases h1 : (mKd l == 1) with
  | true =>
    simp only [cond_true]
    refine ⟨hp, fun j hj => ⟨2, pT p, pW p, pS p, ?_, .inl rfl, hp, fun h => by omega⟩⟩
    obtain rfl : j = 0 := by omega
    rfl
  | false =>
    simp only [cond_false]
    cases h3 : (mKd l == 3) with
    | true =>
      simp only [cond_true]
      refine ⟨?_, fun j hj => ⟨4, 0, 0, ⟨#[]⟩, ?_, .inr rfl, cck0, fun _ => ⟨rfl, rfl, rfl⟩⟩⟩
      · have hk : cks [((pT p, pW p), pS p), ((mTi l, mWh l), mDa l)] = 0 := by
          show (if cck ((pT p, pW p), pS p) = 0 then (if cck ((mTi l, mWh l), mDa l) = 0 then (0 : Int) else cck ((mTi l, mWh l), mDa l)) else cck ((pT p, pW p), pS p)) = 0
          rw [if_pos hp, if_pos hc]
        have hkb : (cks [((pT p, pW p), pS p), ((mTi l, mWh l), mDa l)] != 0) = false := by rw [hk]; rfl
        unfold x0_store x1_store x2_store
        simp only [hkb, cond_false]
        show cck (ltr ((pT p, pW p), pS p) ((mTi l, mWh l), mDa l)) = 0
        unfold ltr
        split
        · exact hc
        · exact hp
      · obtain rfl : j = 0 := by omega
        rfl
    | false =>
      simp only [cond_false]
      exact ⟨hp, fun j hj => by omega⟩
theorem sv_rt {y : CL} (h : Rt y) {l : List Value} (hl : mChk l = 0) (ha : mNo l < (y.a : Int)) (hb : mOp l < (y.b : Int)) (he : svE y l = 0) : Rt (svC y l) := by
  obtain ⟨r1, r2, r3, r4, -⟩ := mchk_rng hl
  have hi : (mNo l).toNat < y.a := by omega
  have hp : cck ((pT (y.nd (mNo l).toNat), pW (y.nd (mNo l).toNat)), pS (y.nd (mNo l).toNat)) = 0 := h.nox _ hi
  obtain ⟨c1, c2⟩ := sv_c hp hl
  have hY : Rt (svY y l) := by
    refine ⟨h.q, h.am, fun j hj => ?_, h.b31, h.cb, h.asx, h.d200, h.nex, h.c0, h.c1⟩
    have hj : j < y.a := hj
    show cck ((pT (updG y.nd (mNo l).toNat (sC (y.nd (mNo l).toNat) l) j), pW (updG y.nd (mNo l).toNat (sC (y.nd (mNo l).toNat) l) j)), pS (updG y.nd (mNo l).toNat (sC (y.nd (mNo l).toNat) l) j)) = 0
    rw [updG_at]
    split
    · exact c1
    · exact h.nox j hj
  refine (send_rt hY (k := sN (y.nd (mNo l).toNat) l) (G := sG (y.nd (mNo l).toNat) l) (by have := sN_le (y.nd (mNo l).toNat) l; omega) (fun j hj => ?_) he).1
  obtain ⟨k, t, w, s, e, hk, hc, hz⟩ := c2 j hj
  refine ne_iff.2 ?_
  rw [e]
  refine ⟨mchk_of (wkind_iff.2 (by omega)) r1 r2 r3 r4 hc fun h => ?_, ha, hb⟩
  rcases hk with rfl | rfl
  · cases h
  · exact hz rfl
/-- what becomes of an operation by a message, as a record -/
def hH (x : CL) (q l : List Value) : HR := hR x.m x.w x.need (mKd q) (mOp q) (mNo q) (q3 q) (q4 q) (q5 q) (q6 q) (q7 q) (mKd l) (mOp l) (mNo l) (mTi l) (mWh l) (mDa l)
theorem hH_eq (x : CL) (q l : List Value) : mKd (hC x q l) = (hH x q l).op ∧ mOp (hC x q l) = (hH x q l).k ∧ mNo (hC x q l) = (hH x q l).p ∧ q3 (hC x q l) = (hH x q l).d ∧ q4 (hC x q l) = (hH x q l).t ∧ q5 (hC x q l) = (hH x q l).w ∧ q6 (hC x q l) = (hH x q l).s ∧ q7 (hC x q l) = (hH x q l).hd ∧ hN x q l = (hH x q l).n8 ∧ hG x q l = (hH x q l).g8 := ⟨rfl, rfl, rfl, rfl, rfl, rfl, rfl, rfl, rfl, rfl⟩
/-- an operation behind a message: it is right, its number and kind and data are what they were; done it stays; what it sends -/
theorem he_c {x : CL} {q l : List Value} (hq : aChk x.m x.w x.need q = 0) (hl : mChk l = 0) (hw : (Lit.int .u64 (q7 q)).wf = true) (hm : x.m ≤ 12) :
    x_achk x.m x.w x.need (hH x q l).op (hH x q l).k (hH x q l).p (hH x q l).d (hH x q l).t (hH x q l).w (hH x q l).s (hH x q l).hd = 0 ∧ (Lit.int .u64 (hH x q l).hd).wf = true ∧ (hH x q l).op = mKd q ∧ (hH x q l).k = mOp q ∧ (hH x q l).d = q3 q
      ∧ (mNo q = 3 → (hH x q l).p = 3) ∧ ∀ j, j < (hH x q l).n8 → j < x.m ∧ ∃ t w s, (hH x q l).g8 j = mgC 3 (mKd q) (j : Int) t w s ∧ cck ((t, w), s) = 0 := by
  have h0 : x_achk x.m x.w x.need (mKd q) (mOp q) (mNo q) (q3 q) (q4 q) (q5 q) (q6 q) (q7 q) = 0 := hq
  have h1 : x_wchk (mKd l) (mOp l) (mNo l) (mTi l) (mWh l) (mDa l) = 0 := hl
  have hcm := mchk_copy hl
  have iff := achk_iff.1 h0
  have hcq := iff.2.2.2.2.2.2.2.1
  have hsh := iff.2.2.2.2.2.2.2.2
  have hda := iff.2.2.2.2.2.1
  have hph := iff.2.2.2.2.1
  obtain ⟨n, hn⟩ : ∃ n : Nat, mNo l = n := by
    have := (mchk_rng hl).2.2.1
    exact ⟨(mNo l).toNat, by omega⟩
  obtain ⟨h, eh, hh⟩ := wf_nat hw
  have hb := bst_c (p := mNo q) hcq hcm
  have heard : n < x.m → shrV .u64 (heardN (q7 q) (mNo l)) x.m = 0 ∧ (Lit.int .u64 (heardN (q7 q) (mNo l))).wf = true := fun hlt => by
    rw [eh] at hsh ⊢
    rw [hn]
    refine ⟨heard_shr hh hm hlt hsh, ?_⟩
    rw [heard_nat hh (by omega)]
    have : h ||| 2 ^ n < 2 ^ 64 := Nat.or_lt_two_pow hh (Nat.pow_lt_pow_right (by decide) (by omega))
    unfold Lit.wf
    rw [Bool.and_eq_true]
    refine ⟨decide_eq_true (by show (0 : Int) ≤ _; omega), decide_eq_true ?_⟩
    show ((h ||| 2 ^ n : Nat) : Int) ≤ 18446744073709551615
    omega
  have z0 : shrV .u64 0 x.m = 0 := zero_shr x.m
  have hp2 : (!x_aphase 2) = false := by decide
  have hp3 : (!x_aphase 3) = false := by decide
  have w0 : (Lit.int .u64 0).wf = true := by decide
  unfold hH
  rw [hR_eq]
  rcases hV_cases h0 h1 with ⟨_, e⟩ | ⟨ht, ⟨_, e⟩ | ⟨_, hp, e⟩ | ⟨_, hp, hk, _, e⟩ | ⟨_, hp, hk, hx, e⟩ | ⟨_, hp, hk, e⟩⟩ <;> rw [e]
  · exact ⟨h0, hw, rfl, rfl, rfl, id, fun j hj => by cases hj⟩
  · have hnm := (wait_t ht).2.2.1
    obtain ⟨g1, g2⟩ := heard (by rw [hn] at hnm; omega)
    exact ⟨achk_with h0 hph hb g1, g2, rfl, rfl, rfl, id, fun j hj => by cases hj⟩
  · have hnm := (wait_t ht).2.2.1
    obtain ⟨g1, g2⟩ := heard (by rw [hn] at hnm; omega)
    exact ⟨achk_with h0 hp3 hcq g1, g2, rfl, rfl, rfl, fun _ => rfl, fun j hj => by cases hj⟩
  · exact ⟨h0, hw, rfl, rfl, rfl, id, fun j hj => by cases hj⟩
  · have hc2 := nx_c hda hx
    exact ⟨achk_with h0 hp2 hc2 z0, w0, rfl, rfl, rfl, fun h => by omega, fun j hj => ⟨hj, _, _, _, rfl, hc2⟩⟩
  · exact ⟨achk_with h0 hp2 hb z0, w0, rfl, rfl, rfl, fun h => by omega, fun j hj => ⟨hj, _, _, _, rfl, hb⟩⟩
theorem he_rt {y : CL} (h : Rt y) (hw : Wf y) {l : List Value} (hl : mChk l = 0) (hb : mOp l < (y.b : Int)) (_hc : 1 ≤ y.clk) (he : heE y l = 0) : Rt (heC y l) ∧ Wf (heC y l) := by
  obtain ⟨r1, r2, -, -, -⟩ := mchk_rng hl
  have h12 := h.m12
  have hi : (mOp l).toNat < y.b := by omega
  obtain ⟨a1, a2, a3⟩ := as_iff.1 (h.asx _ hi)
  obtain ⟨c1, c2, c3, c4, c5, c6, c7⟩ := he_c (x := y) (q := y.ak (mOp l).toNat) a2 hl (hw _ hi) h12
  have fitZ : Fits ((heZ y l).tm (mOp l).toNat) ((heZ y l).ak (mOp l).toNat) y.clk ∧ (heZ y l).ak = (heY y l).ak ∧ ∀ j, j ≠ (mOp l).toNat → (heZ y l).tm j = y.tm j := by
    have ea : (heY y l).ak (mOp l).toNat = hC y (y.ak (mOp l).toNat) l := by
      show updG _ _ _ _ = _
      rw [updG_at, if_pos rfl]
    unfold heZ
    cases b1 : endB y l with
    | true =>
      have p3 : mNo ((heY y l).ak (mOp l).toNat) = 3 := beq_iff_eq.1 b1
      cases b2 : endB2 y l with
      | true =>
        refine ⟨?_, rfl, fun j hj => by show updG _ _ _ _ = _; rw [updG_at, if_neg hj]⟩
        have et : (heT y l).tm (mOp l).toNat = [.int .i64 (intV (hdV (y.tm (mOp l).toNat))), .int .i64 y.clk] := by
          show updG _ _ _ _ = _
          rw [updG_at, if_pos rfl]
        show Fits ((heT y l).tm (mOp l).toNat) ((heY y l).ak (mOp l).toNat) y.clk
        rw [et]
        refine ⟨a3.1, a3.2.1, fun h => absurd p3 h, fun _ => ⟨a3.2.1, Int.le_refl _⟩⟩
      | false =>
        refine ⟨?_, rfl, fun j _ => rfl⟩
        have t0 : intV (hdV (tlV (y.tm (mOp l).toNat))) ≠ 0 := by
          unfold endB2 at b2
          simpa using b2
        have q3' : mNo (y.ak (mOp l).toNat) = 3 := Decidable.byContradiction fun hn => t0 (a3.2.2.1 hn)
        exact ⟨a3.1, a3.2.1, fun h => absurd p3 h, fun _ => a3.2.2.2 q3'⟩
    | false =>
      have p3 : mNo ((heY y l).ak (mOp l).toNat) ≠ 3 := by
        unfold endB at b1
        simpa using b1
      refine ⟨?_, rfl, fun j _ => rfl⟩
      have q3' : mNo (y.ak (mOp l).toNat) ≠ 3 := fun hq => p3 (by rw [ea]; exact c6 hq)
      exact ⟨a3.1, a3.2.1, fun _ => a3.2.2.1 q3', fun h => absurd h p3⟩
  have eC : heC y l = sendC (heZ y l) (hN y (y.ak (mOp l).toNat) l) (hG y (y.ak (mOp l).toNat) l) := by
    unfold heC heZ
    cases endB y l <;> cases endB2 y l <;> rfl
  have eE : heE y l = sendE (heZ y l) (hN y (y.ak (mOp l).toNat) l) := by
    unfold heE heZ
    cases endB y l <;> cases endB2 y l <;> rfl
  have same : (heZ y l).m = y.m ∧ (heZ y l).w = y.w ∧ (heZ y l).need = y.need ∧ (heZ y l).a = y.a ∧ (heZ y l).nd = y.nd ∧ (heZ y l).b = y.b ∧ (heZ y l).c = y.c ∧ (heZ y l).d = y.d ∧ (heZ y l).nt = y.nt ∧ (heZ y l).clk = y.clk := by
    unfold heZ
    cases endB y l <;> cases endB2 y l <;> exact ⟨rfl, rfl, rfl, rfl, rfl, rfl, rfl, rfl, rfl, rfl⟩
  obtain ⟨s1, s2, s3, s4, s5, s6, s7, s8, s9, s10⟩ := same
  obtain ⟨f1, f2, f3⟩ := fitZ
  have akj : ∀ j, (heZ y l).ak j = if j = (mOp l).toNat then hC y (y.ak (mOp l).toNat) l else y.ak j := fun j => by
    rw [f2]
    exact updG_at _ _ _ j
  have hZ : Rt (heZ y l) := by
    refine ⟨by rw [s1, s2, s3]; exact h.q, by rw [s4, s1]; exact h.am, by rw [s4, s5]; exact h.nox, by rw [s6]; exact h.b31, by rw [s7, s6]; exact h.cb, fun j hj => ?_, by rw [s8]; exact h.d200, by rw [s8, s4, s6, s9]; exact h.nex, by rw [s10]; exact h.c0, by rw [s10]; exact h.c1⟩
    rw [s6] at hj
    rw [s1, s2, s3, s10]
    refine as_iff.2 ?_
    by_cases ej : j = (mOp l).toNat
    · subst ej
      have ea := akj (mOp l).toNat
      rw [if_pos rfl] at ea
      refine ⟨?_, ?_, f1⟩
      · rw [ea]
        exact c3.trans a1
      · rw [ea]
        exact c1
    · have ea := akj j
      rw [if_neg ej] at ea
      rw [ea, f3 j ej]
      exact as_iff.1 (h.asx j hj)
  rw [eE] at he
  have hs := send_rt hZ (k := hN y (y.ak (mOp l).toNat) l) (G := hG y (y.ak (mOp l).toNat) l) (by have := hN_le y (y.ak (mOp l).toNat) l; omega) (fun j hj => by
    obtain ⟨g1, t, w, s, g2, g3⟩ := c7 j hj
    have g2 : hG y (y.ak (mOp l).toNat) l j = mgC 3 (mKd (y.ak (mOp l).toNat)) (j : Int) t w s := g2
    refine ne_iff.2 ?_
    rw [g2, s4, s6, a1]
    refine ⟨mchk_of (by decide) (by omega) (by have := h.b31; omega) (by omega) (by omega) g3 (fun h => by cases h), ?_, ?_⟩
    · show (j : Int) < (y.a : Int)
      have := h.am
      omega
    · show (((mOp l).toNat : Nat) : Int) < (y.b : Int)
      omega) he
  rw [eC]
  refine ⟨hs.1, fun j hj => ?_⟩
  unfold sendC at hj ⊢
  rw [hs.2] at hj ⊢
  have hj : j < (heZ y l).b := hj
  rw [s6] at hj
  show (Lit.int .u64 (q7 ((heZ y l).ak j))).wf = true
  rw [akj]
  split
  · exact c2
  · exact hw j hj
theorem Wf.send {y : CL} (hw : Wf y) {k : Nat} {G : Nat → List Value} (h : much y k = false) : Wf (sendC y k G) := by
  unfold sendC
  rw [h]
  exact hw
theorem send_much {y : CL} {k : Nat} (h : sendE y k = 0) : much y k = false := (bif_k (by decide) h).1
/-- A RIGHT CLUSTER STAYS RIGHT. -/
theorem af_rt {x : CL} (h : Rt x) (hw : Wf x) {kd n : Int} {dt : ByteArray} (he : afE x kd n dt = 0) : Rt (afC x kd n dt) ∧ Wf (afC x kd n dt) := by
  have h0 := he
  unfold afE at he
  obtain ⟨e1, he⟩ := bif_k (by decide) he
  obtain ⟨e2, he⟩ := bif_ne he
  have hk : x.clk ≠ 1000000 := by simpa using e1
  have ei := inc_eq h hk
  have c0 := h.c0
  have z2 : (x_cstep kd n dt != 0) = false := by rw [e2]; rfl
  unfold afC
  rw [e1, z2]
  simp only [cond_false]
  have begW : ∀ {k : Int} {d' : ByteArray}, begE x k d' = 0 → Wf (begC x k d') := fun {k d'} hb => by
    unfold begE at hb
    obtain ⟨b1, hb⟩ := bif_k (by decide) hb
    obtain ⟨b2, hb⟩ := bif_ne hb
    unfold begC
    rw [b1, show (bE x k d' != 0) = false from by rw [b2]; rfl]
    refine Wf.send (y := begY x k d') (fun j hj => ?_) (send_much hb)
    have hj : j < x.b + 1 := hj
    show (Lit.int .u64 (q7 (joinG x.b x.ak (oneG 8 (bC x k d')) j))).wf = true
    rw [joinG_at]
    split
    · exact hw j (by assumption)
    · have hz : x_achk x.m x.w x.need (x.b : Int) k 1 d' 0 0 ⟨⟨[]⟩⟩ 0 = 0 := by
        have e3 : bE x k d' = 0 := b2
        unfold bE x9_begin at e3
        exact (bif_ne e3).1
      have hzb : (x_achk x.m x.w x.need (x.b : Int) k 1 d' 0 0 ⟨⟨[]⟩⟩ 0 != 0) = false := by rw [hz]; rfl
      have ej : j - x.b = 0 := by omega
      rw [ej]
      show (Lit.int .u64 (x7_begin x.m x.w x.need (x.b : Int) k d')).wf = true
      unfold x7_begin
      simp only [hzb, cond_false]
      decide
  rcases bif_or he with ⟨k1, he⟩ | ⟨k1, he⟩
  · rw [k1]
    exact ⟨beg_rt h hk he, begW he⟩
  rw [k1]
  rcases bif_or he with ⟨k2, he⟩ | ⟨k2, he⟩
  · rw [k2]
    exact ⟨beg_rt h hk he, begW he⟩
  rw [k2]
  obtain ⟨n0, he⟩ := bif_k (by decide) he
  obtain ⟨n1, he⟩ := bif_k (by decide) he
  rw [n0, n1]
  have n0 := of_decide_eq_false n0
  have n1 := of_decide_eq_false n1
  have hj : n.toNat < x.d := by omega
  have hm := ne_iff.1 (h.nex _ hj)
  rcases bif_or he with ⟨k5, he⟩ | ⟨k5, he⟩
  · rw [k5]
    have hi := inc_rt h hk
    refine ⟨(send_rt hi (k := 1) (G := oneG 6 (msV (x.nt n.toNat))) (by omega) (fun j hj => ?_) he).1, Wf.send (y := incY x) hw (send_much he)⟩
    obtain rfl : j = 0 := by omega
    exact ne_iff.2 ⟨hm.1, hm.2.1, hm.2.2⟩
  rw [k5]
  have hd := del_rt h hk (n := n) (by omega) (by omega)
  rcases bif_or he with ⟨k4, he⟩ | ⟨k4, he⟩
  · rw [k4]
    exact ⟨hd, hw⟩
  rw [k4]
  simp only [cond_false]
  have hwd : Wf (delY x n) := hw
  unfold brE at he
  unfold brC
  rcases bif_or he with ⟨m1, he⟩ | ⟨m1, he⟩
  · rw [m1]
    exact ⟨sv_rt hd hm.1 hm.2.1 hm.2.2 he, Wf.send (y := svY (delY x n) (x.nt n.toNat)) hwd (send_much he)⟩
  rw [m1]
  rcases bif_or he with ⟨m3, he⟩ | ⟨m3, he⟩
  · rw [m3]
    exact ⟨sv_rt hd hm.1 hm.2.1 hm.2.2 he, Wf.send (y := svY (delY x n) (x.nt n.toNat)) hwd (send_much he)⟩
  rw [m3]
  have hc1 : 1 ≤ (delY x n).clk := by show 1 ≤ inc x.clk; omega
  rcases bif_or he with ⟨m2, he⟩ | ⟨m2, he⟩
  · rw [m2]
    exact he_rt hd hwd hm.1 hm.2.2 hc1 he
  rw [m2]
  rcases bif_or he with ⟨m4, he⟩ | ⟨m4, he⟩
  · rw [m4]
    exact he_rt hd hwd hm.1 hm.2.2 hc1 he
  rw [m4]
  exact ⟨(send_rt hd (k := 0) (G := fun _ => []) (by omega) (fun j hj => by omega) he).1, Wf.send (y := delY x n) hwd (send_much he)⟩
abbrev kS (l : List Value) : Int := intV (hdV l)
abbrev nS (l : List Value) : Int := intV (hdV (tlV l))
abbrev dS (l : List Value) : ByteArray := strV (hdV (tlV (tlV l)))
/-- behind so many steps: the cluster; how many had no error -/
def rC (x : CL) (sg : Nat → List Value) : Nat → CL
  | 0 => x
  | j + 1 => bif afE (rC x sg j) (kS (sg j)) (nS (sg j)) (dS (sg j)) == 0 then afC (rC x sg j) (kS (sg j)) (nS (sg j)) (dS (sg j)) else rC x sg j
def rN (x : CL) (sg : Nat → List Value) : Nat → Nat
  | 0 => 0
  | j + 1 => bif afE (rC x sg j) (kS (sg j)) (nS (sg j)) (dS (sg j)) == 0 then rN x sg j + 1 else rN x sg j
theorem rC_rt {x : CL} (h : Rt x) (hw : Wf x) (sg : Nat → List Value) : ∀ j, Rt (rC x sg j) ∧ Wf (rC x sg j)
  | 0 => ⟨h, hw⟩
  | j + 1 => by
    obtain ⟨i1, i2⟩ := rC_rt h hw sg j
    unfold rC
    cases e : (afE (rC x sg j) (kS (sg j)) (nS (sg j)) (dS (sg j)) == 0) with
    | true => exact af_rt i1 i2 (beq_iff_eq.1 e)
    | false => exact ⟨i1, i2⟩
theorem rN_le (x : CL) (sg : Nat → List Value) : ∀ j, rN x sg j ≤ j
  | 0 => Nat.le_refl _
  | j + 1 => by
    have := rN_le x sg j
    unfold rN
    cases (afE (rC x sg j) (kS (sg j)) (nS (sg j)) (dS (sg j)) == 0) <;> simp only [cond_true, cond_false] <;> omega
theorem rN_zero {x : CL} {sg : Nat → List Value} : ∀ {j}, rN x sg j = 0 → rC x sg j = x
  | 0, _ => rfl
  | j + 1, h => by
    unfold rN at h
    unfold rC
    cases e : (afE (rC x sg j) (kS (sg j)) (nS (sg j)) (dS (sg j)) == 0) with
    | true => rw [e] at h; simp only [cond_true] at h; omega
    | false => rw [e] at h; exact rN_zero h
abbrev stepV (l : List Value) : Value := .agg ⟨[.int .i64 (kS l), .int .i64 (nS l), .string (dS l)]⟩
def runO (y : CL) (l j : Nat) (n : Int) (sg : Nat → List Value) (now : List AObj) (next : CL → List AObj) : Out :=
  tst (decide ((j : Int) < (l : Int))) (.ask (0 ≤ (j : Int) ∧ (j : Int) < (l : Int)) (.ask (j < l) (.ask (y.m + 0 ≤ y.m ∧ y.m ≤ 140737488355328) (.ask (y.a + 0 ≤ y.a ∧ y.a ≤ 140737488355328) (.ask (y.b + 0 ≤ y.b ∧ y.b ≤ 140737488355328) (.ask (y.c + 0 ≤ y.c ∧ y.c ≤ 140737488355328) (.ask (y.d + 0 ≤ y.d ∧ y.d ≤ 140737488355328) (.ask (aAft (y.cas ++ [.val (stepV (sg j))]))
    (tst (afE y (kS (sg j)) (nS (sg j)) (dS (sg j)) == 0) (.done .normal ⟨someL (runV l (inc n) (inc (j : Int))), next (afC y (kS (sg j)) (nS (sg j)) (dS (sg j)))⟩)
      (.done .normal ⟨someL (runV l n (inc (j : Int))), now⟩)))))))))) (.done (.exit 0) ⟨someL [.pointer (some ⟨7, 0, none⟩), .pointer (some ⟨14, 0, none⟩), .int .i64 n], now⟩)
set_option maxRecDepth 100000 in
theorem run_A (x : CL) (l j : Nat) (n : Int) (sg : Nat → List Value) : ev K36 noL (bodyOf Try.f17 0) ⟨mkSlots 46 [4, 8, 9, 26, 27, 28] (runV l n (j : Int)), nowA x l sg⟩ (pkG 46 keepRun 15) = runO x l j n sg (nowA x l sg) (fun z => nowB x z l sg) := by kernel_rfl
set_option maxRecDepth 100000 in
theorem run_B (x y : CL) (l j : Nat) (n : Int) (sg : Nat → List Value) : ev K36 noL (bodyOf Try.f17 0) ⟨mkSlots 46 [4, 8, 9, 26, 27, 28] (runV l n (j : Int)), nowB x y l sg⟩ (pkG 46 keepRun 15) = runO y l j n sg (nowB x y l sg) (fun z => nowB x z l sg) := by kernel_rfl
end Go.Proofs.Ytpkckgdpdnkbeaa
