/- The steps of a cluster, one by one; what holds behind them all. Writes that have chosen a stamp bear their own number. -/
import Derived.Test.YtpkckgdpdnkbeaaDh
namespace Go.Proofs.Ytpkckgdpdnkbeaa
open Go.RowKit
theorem beq_f {a b : Int} (h : (a == b) = false) : a ≠ b := by simpa using h
def askN (x : CL) (k : Int) (dt : ByteArray) : List Value := [.int .i64 (x.b : Int), .int .i64 k, .int .i64 1, .string dt, .int .i64 0, .int .i64 0, .string ⟨⟨[]⟩⟩, .int .u64 0]
/-- an operation began -/
def stB (x : CL) (k : Int) (dt : ByteArray) : CL := { x with clk := x.clk + 1, b := x.b + 1, ak := joinG x.b x.ak (oneG 8 (askN x k dt)), c := x.c + 1, tm := joinG x.c x.tm (oneG 2 [.int .i64 (x.clk + 1), .int .i64 0]), d := x.d + x.m, nt := joinG x.d x.nt (toC 1 (x.b : Int) 0 0 ⟨#[]⟩) }
/-- a message was doubled -/
def stT (x : CL) (i : Nat) : CL := { x with clk := x.clk + 1, d := x.d + 1, nt := joinG x.d x.nt (oneG 6 (msV (x.nt i))) }
/-- a message was lost -/
def stL (x : CL) (i : Nat) : CL := { x with clk := x.clk + 1, d := x.d - 1, nt := delG i x.nt }
/-- a message came to a node -/
def stS (x : CL) (i : Nat) : CL := { stL x i with nd := updG x.nd (mNo (x.nt i)).toNat (sC (x.nd (mNo (x.nt i)).toNat) (x.nt i)), d := x.d - 1 + sN (x.nd (mNo (x.nt i)).toNat) (x.nt i), nt := joinG (x.d - 1) (delG i x.nt) (sG (x.nd (mNo (x.nt i)).toNat) (x.nt i)) }
/-- a message came to an operation -/
def stH (x : CL) (i : Nat) : CL := { heZ (stL x i) (x.nt i) with d := x.d - 1 + hN x (x.ak (mOp (x.nt i)).toNat) (x.nt i), nt := joinG (x.d - 1) (delG i x.nt) (hG x (x.ak (mOp (x.nt i)).toNat) (x.nt i)) }
def Steps (x y : CL) : Prop :=
  (∃ k dt, (k = 1 ∨ k = 2) ∧ x.b < 31 ∧ x_achk x.m x.w x.need (x.b : Int) k 1 dt 0 0 ⟨⟨[]⟩⟩ 0 = 0 ∧ y = stB x k dt) ∨
  (∃ i, i < x.d ∧ y = stT x i) ∨ (∃ i, i < x.d ∧ y = stL x i) ∨
  (∃ i, i < x.d ∧ (mKd (x.nt i) = 1 ∨ mKd (x.nt i) = 3) ∧ y = stS x i) ∨
  (∃ i, i < x.d ∧ (mKd (x.nt i) = 2 ∨ mKd (x.nt i) = 4) ∧ y = stH x i)
theorem sendC_of {y : CL} {k : Nat} {G : Nat → List Value} (h : sendE y k = 0) : sendC y k G = { y with d := y.d + k, nt := joinG y.d y.nt G } := by
  unfold sendC
  rw [send_much h]
  rfl
theorem incY_eq {x : CL} (e : inc x.clk = x.clk + 1) : incY x = { x with clk := x.clk + 1 } := by unfold incY; rw [e]
theorem beg_step {x : CL} (h : Rt x) (hk : x.clk ≠ 1000000) {k : Int} {dt : ByteArray} (hkk : k = 1 ∨ k = 2) (he : begE x k dt = 0) : Steps x (begC x k dt) := by
  have ei := inc_eq h hk
  unfold begE at he
  obtain ⟨e1, he⟩ := bif_k (by decide) he
  obtain ⟨e2, he⟩ := bif_ne he
  have hb : x.b < 31 := by
    have := h.b31
    have : (x.b : Int) ≠ 31 := by simpa using e1
    omega
  have hz : x_achk x.m x.w x.need (x.b : Int) k 1 dt 0 0 ⟨⟨[]⟩⟩ 0 = 0 := by
    have e3 : bE x k dt = 0 := e2
    unfold bE x9_begin at e3
    exact (bif_ne e3).1
  have hzb : (x_achk x.m x.w x.need (x.b : Int) k 1 dt 0 0 ⟨⟨[]⟩⟩ 0 != 0) = false := by rw [hz]; rfl
  have eC : bC x k dt = askN x k dt := by
    unfold bC x0_begin x1_begin x2_begin x3_begin x4_begin x5_begin x6_begin x7_begin
    simp only [hzb, cond_false]
    rfl
  have eG : bG x k dt = toC 1 (x.b : Int) 0 0 ⟨#[]⟩ := by
    unfold bG g8_begin
    simp only [hzb, cond_false]
  have eN : bN x k dt = x.m := by
    unfold bN n8_begin
    simp only [hzb, cond_false]
  refine .inl ⟨k, dt, hkk, hb, hz, ?_⟩
  unfold begC
  rw [e1, show (bE x k dt != 0) = false from by rw [e2]; rfl]
  show sendC (begY x k dt) (bN x k dt) (bG x k dt) = _
  rw [sendC_of he, eN, eG]
  unfold begY stB
  rw [eC, ei]
theorem step_cases {x : CL} (h : Rt x) {kd n : Int} {dt : ByteArray} (he : afE x kd n dt = 0) : Steps x (afC x kd n dt) := by
  unfold afE at he
  obtain ⟨e1, he⟩ := bif_k (by decide) he
  obtain ⟨e2, he⟩ := bif_ne he
  have hk : x.clk ≠ 1000000 := by simpa using e1
  have ei := inc_eq h hk
  have z2 : (x_cstep kd n dt != 0) = false := by rw [e2]; rfl
  unfold afC
  rw [e1, z2]
  simp only [cond_false]
  rcases bif_or he with ⟨k1, he⟩ | ⟨k1, he⟩
  · rw [k1]
    exact beg_step h hk (.inl rfl) he
  rw [k1]
  rcases bif_or he with ⟨k2, he⟩ | ⟨k2, he⟩
  · rw [k2]
    exact beg_step h hk (.inr rfl) he
  rw [k2]
  obtain ⟨n0, he⟩ := bif_k (by decide) he
  obtain ⟨n1, he⟩ := bif_k (by decide) he
  rw [n0, n1]
  have n0 := of_decide_eq_false n0
  have n1 := of_decide_eq_false n1
  have hj : n.toNat < x.d := by omega
  have hm := ne_iff.1 (h.nex _ hj)
  have hkd := (mchk_rng hm.1).2.2.2.2
  have dl : delY x n = stL x n.toNat := by unfold delY stL; rw [ei]
  rcases bif_or he with ⟨k5, he⟩ | ⟨k5, he⟩
  · rw [k5]
    refine .inr (.inl ⟨n.toNat, hj, ?_⟩)
    show sendC (incY x) 1 (oneG 6 (msV (x.nt n.toNat))) = _
    rw [sendC_of he, incY_eq ei]
    rfl
  rw [k5]
  rcases bif_or he with ⟨k4, he⟩ | ⟨k4, he⟩
  · rw [k4]
    exact .inr (.inr (.inl ⟨n.toNat, hj, dl⟩))
  rw [k4]
  simp only [cond_false]
  have svS : svE (delY x n) (x.nt n.toNat) = 0 → svC (delY x n) (x.nt n.toNat) = stS x n.toNat := fun he => by
    show sendC (svY (delY x n) (x.nt n.toNat)) _ _ = _
    rw [sendC_of he, dl]
    rfl
  have heS : heE (delY x n) (x.nt n.toNat) = 0 → heC (delY x n) (x.nt n.toNat) = stH x n.toNat := fun he => by
    rw [dl] at he ⊢
    have eC : heC (stL x n.toNat) (x.nt n.toNat) = sendC (heZ (stL x n.toNat) (x.nt n.toNat)) (hN x (x.ak (mOp (x.nt n.toNat)).toNat) (x.nt n.toNat)) (hG x (x.ak (mOp (x.nt n.toNat)).toNat) (x.nt n.toNat)) := by
      unfold heC heZ
      cases endB (stL x n.toNat) (x.nt n.toNat) <;> cases endB2 (stL x n.toNat) (x.nt n.toNat) <;> rfl
    have eE : heE (stL x n.toNat) (x.nt n.toNat) = sendE (heZ (stL x n.toNat) (x.nt n.toNat)) (hN x (x.ak (mOp (x.nt n.toNat)).toNat) (x.nt n.toNat)) := by
      unfold heE heZ
      cases endB (stL x n.toNat) (x.nt n.toNat) <;> cases endB2 (stL x n.toNat) (x.nt n.toNat) <;> rfl
    have same : (heZ (stL x n.toNat) (x.nt n.toNat)).d = x.d - 1 ∧ (heZ (stL x n.toNat) (x.nt n.toNat)).nt = delG n.toNat x.nt := by
      unfold heZ
      cases endB (stL x n.toNat) (x.nt n.toNat) <;> cases endB2 (stL x n.toNat) (x.nt n.toNat) <;> exact ⟨rfl, rfl⟩
    rw [eE] at he
    rw [eC, sendC_of he, same.1, same.2]
    rfl
  unfold brE at he
  unfold brC
  rcases bif_or he with ⟨m1, he⟩ | ⟨m1, he⟩
  · rw [m1]
    exact .inr (.inr (.inr (.inl ⟨n.toNat, hj, .inl (beq_iff_eq.1 m1), svS he⟩)))
  rw [m1]
  rcases bif_or he with ⟨m3, he⟩ | ⟨m3, he⟩
  · rw [m3]
    exact .inr (.inr (.inr (.inl ⟨n.toNat, hj, .inr (beq_iff_eq.1 m3), svS he⟩)))
  rw [m3]
  rcases bif_or he with ⟨m2, he⟩ | ⟨m2, he⟩
  · rw [m2]
    exact .inr (.inr (.inr (.inr ⟨n.toNat, hj, .inl (beq_iff_eq.1 m2), heS he⟩)))
  rw [m2]
  rcases bif_or he with ⟨m4, he⟩ | ⟨m4, he⟩
  · rw [m4]
    exact .inr (.inr (.inr (.inr ⟨n.toNat, hj, .inr (beq_iff_eq.1 m4), heS he⟩)))
  have := wkind_iff.1 hkd
  have a1 := beq_f m1
  have a2 := beq_f m2
  have a3 := beq_f m3
  have a4 := beq_f m4
  exfalso
  have e : mKd (x.nt n.toNat) = intV (hdV (x.nt n.toNat)) := rfl
  omega
theorem new_rt {m : Nat} {w : Nat → List Value} {need : Int} (h : qE (wsOf m w) need = 0) : Rt (newC m w need) ∧ Wf (newC m w need) :=
  ⟨⟨h, rfl, fun j _ => by show cck (((0 : Int), (0 : Int)), ⟨#[]⟩) = 0; decide, by show 0 ≤ 31; omega, rfl, fun j hj => absurd hj (Nat.not_lt_zero j), by show 0 ≤ 200; omega, fun j hj => absurd hj (Nat.not_lt_zero j), by show (0 : Int) ≤ 0; omega, by show (0 : Int) ≤ 1000000; omega⟩, fun j hj => absurd hj (Nat.not_lt_zero j)⟩
/-- WHAT A NEW CLUSTER HAS, AND EACH STEP KEEPS, HOLDS BEHIND ALL STEPS. -/
theorem reach {P : CL → Prop} {m : Nat} {w : Nat → List Value} {need : Int} (hq : qE (wsOf m w) need = 0) (h0 : P (newC m w need)) (hs : ∀ x y, Rt x → Wf x → Rt y → Steps x y → P x → P y) (sg : Nat → List Value) : ∀ j, Rt (rC (newC m w need) sg j) ∧ Wf (rC (newC m w need) sg j) ∧ P (rC (newC m w need) sg j)
  | 0 => ⟨(new_rt hq).1, (new_rt hq).2, h0⟩
  | j + 1 => by
    obtain ⟨i1, i2, i3⟩ := reach hq h0 hs sg j
    unfold rC
    cases e : (afE (rC (newC m w need) sg j) (kS (sg j)) (nS (sg j)) (dS (sg j)) == 0) with
    | true =>
      have he := beq_iff_eq.1 e
      obtain ⟨r1, r2⟩ := af_rt i1 i2 he
      exact ⟨r1, r2, hs _ _ i1 i2 r1 (step_cases i1 he) i3⟩
    | false => exact ⟨i1, i2, i3⟩
theorem ran_of {m : Nat} {w : Nat → List Value} {need : Int} {l : Nat} (h : ranB m w need l = true) (sg : Nat → List Value) : ranC m w need l sg = rC (newC m w need) sg l ∧ qE (wsOf m w) need = 0 := by
  unfold ranB at h
  unfold ranC
  cases hc : (newE m w need != 0) with
  | true => rw [hc] at h; cases h
  | false =>
    rw [hc] at h
    obtain ⟨e1, e2⟩ := newY_of hc
    refine ⟨?_, e2⟩
    rw [cond_false, e1]
    rw [cond_false, e1] at h
    have h := beq_iff_eq.1 h
    unfold runE at h
    obtain ⟨a1, h⟩ := bif_ne h
    obtain ⟨a2, -⟩ := bif_k (by decide) h
    unfold runC
    rw [a1, a2]
    rfl
def Own (q : List Value) (j : Nat) : Prop := mOp q = 2 → mNo q ≠ 1 → q5 q = (j : Int)
def AllOwn (x : CL) : Prop := ∀ j, j < x.b → Own (x.ak j) j
theorem heZ_same (y : CL) (l : List Value) : (heZ y l).m = y.m ∧ (heZ y l).w = y.w ∧ (heZ y l).need = y.need ∧ (heZ y l).a = y.a ∧ (heZ y l).nd = y.nd ∧ (heZ y l).b = y.b ∧ (heZ y l).c = y.c ∧ (heZ y l).clk = y.clk ∧ (heZ y l).ak = updG y.ak (mOp l).toNat (hC y (y.ak (mOp l).toNat) l) := by
  unfold heZ
  cases endB y l <;> cases endB2 y l <;> exact ⟨rfl, rfl, rfl, rfl, rfl, rfl, rfl, rfl, rfl⟩
theorem stH_ak (x : CL) (i : Nat) : (stH x i).b = x.b ∧ (stH x i).ak = updG x.ak (mOp (x.nt i)).toNat (hC x (x.ak (mOp (x.nt i)).toNat) (x.nt i)) := ⟨(heZ_same (stL x i) (x.nt i)).2.2.2.2.2.1, (heZ_same (stL x i) (x.nt i)).2.2.2.2.2.2.2.2⟩
/-- an operation behind a message, by cases, cell by cell -/
theorem h_cases {x : CL} {q l : List Value} (hq : aChk x.m x.w x.need q = 0) (hl : mChk l = 0) :
    let b := bst (mNo q) (q4 q) (q5 q) (q6 q) (mTi l) (mWh l) (mDa l)
    let W := x_wait (mKd q) (mNo q) (q7 q) x.m (mKd l) (mOp l) (mNo l)
    let F := x0_enough x.m x.w x.need (heardN (q7 q) (mNo l))
    (W = false ∧ hH x q l = ⟨mKd q, mOp q, mNo q, q3 q, q4 q, q5 q, q6 q, q7 q, 0, nil8, 0⟩)
    ∨ (W = true ∧ (
        (F = false ∧ hH x q l = ⟨mKd q, mOp q, mNo q, q3 q, b.1.1, b.1.2, b.2, heardN (q7 q) (mNo l), 0, nil8, 0⟩)
        ∨ (F = true ∧ mNo q = 2 ∧ hH x q l = ⟨mKd q, mOp q, 3, q3 q, q4 q, q5 q, q6 q, heardN (q7 q) (mNo l), 0, nil8, 0⟩)
        ∨ (F = true ∧ mNo q = 1 ∧ mOp q = 2 ∧ nxE b.1.1 b.1.2 (mKd q) ≠ 0 ∧ hH x q l = ⟨mKd q, mOp q, mNo q, q3 q, q4 q, q5 q, q6 q, q7 q, 0, nil8, 0⟩)
        ∨ (F = true ∧ mNo q = 1 ∧ mOp q = 2 ∧ nxE b.1.1 b.1.2 (mKd q) = 0 ∧ hH x q l = ⟨mKd q, mOp q, 2, q3 q, nxT b.1.1 b.1.2 (mKd q), nxW b.1.1 b.1.2 (mKd q), q3 q, 0, x.m, toC 3 (mKd q) (nxT b.1.1 b.1.2 (mKd q)) (nxW b.1.1 b.1.2 (mKd q)) (q3 q), 0⟩)
        ∨ (F = true ∧ mNo q = 1 ∧ mOp q ≠ 2 ∧ hH x q l = ⟨mKd q, mOp q, 2, q3 q, b.1.1, b.1.2, b.2, 0, x.m, toC 3 (mKd q) b.1.1 b.1.2 b.2, 0⟩))) := by
  intro b W F
  have h := hV_cases (m := x.m) (g := x.w) (need := x.need) (op := mKd q) (k := mOp q) (p := mNo q) (d := q3 q) (t := q4 q) (w := q5 q) (s := q6 q) (hd := q7 q) (mk := mKd l) (mo := mOp l) (n := mNo l) (x := mTi l) (y := mWh l) (z := mDa l) hq hl
  unfold hH
  rw [hR_eq]
  exact h
theorem nxW_of {t w who : Int} (h : nxE t w who = 0) : nxW t w who = who ∧ nxT t w who = t + 1 ∧ 0 ≤ t := by
  have hb : (nxE t w who != 0) = false := by rw [h]; rfl
  have e : nxW t w who = who := by unfold nxW; rw [hb]; rfl
  have e2 : nxT t w who = IntKind.wrap .i64 (t + 1) := by unfold nxT; rw [hb]; rfl
  unfold nxE at h
  rw [cz2] at h
  have h1 := h.1
  unfold sck at h1
  split at h1
  · cases h1
  · rename_i hc
    have hc : ¬ (t < 0 ∨ 1000000 < t ∨ w < 0 ∨ 31 < w) := hc
    refine ⟨e, ?_, by omega⟩
    rw [e2, IntKind.wrap_i64]
    omega
theorem own_h {x : CL} {q l : List Value} (hq : aChk x.m x.w x.need q = 0) (hl : mChk l = 0) {j : Nat} (hj : mKd q = (j : Int)) (h : Own q j) : Own (hC x q l) j := by
  obtain ⟨e0, e1, e2, e3, e4, e5, e6, e7, -, -⟩ := hH_eq x q l
  unfold Own
  rw [e1, e2, e5]
  have hc := h_cases (x := x) hq hl
  rcases hc with ⟨_, e⟩ | ⟨ht, ⟨_, e⟩ | ⟨_, hp, e⟩ | ⟨_, hp, hk, _, e⟩ | ⟨_, hp, hk, hx, e⟩ | ⟨_, hp, hk, e⟩⟩ <;> rw [e]
  · exact h
  · intro a1 a2
    have a2 : mNo q ≠ 1 := a2
    have e8 : bst (mNo q) (q4 q) (q5 q) (q6 q) (mTi l) (mWh l) (mDa l) = ((q4 q, q5 q), q6 q) := by
      unfold bst
      rw [show (mNo q == 1) = false from by simpa using a2]
      rfl
    show (bst (mNo q) (q4 q) (q5 q) (q6 q) (mTi l) (mWh l) (mDa l)).1.2 = (j : Int)
    rw [e8]
    exact h a1 a2
  · exact fun a1 _ => h a1 (by omega)
  · exact h
  · intro _ _
    show nxW _ _ _ = (j : Int)
    rw [(nxW_of hx).1]
    exact hj
  · exact fun a1 _ => absurd a1 hk
theorem own_step {x y : CL} (h : Rt x) (hs : Steps x y) (hp : AllOwn x) : AllOwn y := by
  rcases hs with ⟨k, dt, _, _, _, rfl⟩ | ⟨i, _, rfl⟩ | ⟨i, _, rfl⟩ | ⟨i, _, _, rfl⟩ | ⟨i, hi, _, rfl⟩
  · intro j hj
    have hj : j < x.b + 1 := hj
    show Own (joinG x.b x.ak (oneG 8 (askN x k dt)) j) j
    rw [joinG_at]
    split
    · exact hp j (by assumption)
    · rw [show j - x.b = 0 by omega]
      exact fun _ a2 => absurd rfl a2
  · exact hp
  · exact hp
  · exact hp
  · obtain ⟨e1, e2⟩ := stH_ak x i
    intro j hj
    rw [e1] at hj
    rw [e2, updG_at]
    have hm := ne_iff.1 (h.nex i hi)
    have hr := mchk_rng hm.1
    split
    · rename_i ej
      subst ej
      obtain ⟨a1, a2, -⟩ := as_iff.1 (h.asx _ hj)
      exact own_h a2 hm.1 a1 (hp _ hj)
    · exact hp j hj
theorem own_all {m : Nat} {w : Nat → List Value} {need : Int} {l : Nat} (h : ranB m w need l = true) (sg : Nat → List Value) : AllOwn (ranC m w need l sg) := by
  obtain ⟨e, hq⟩ := ran_of h sg
  rw [e]
  exact (reach (P := AllOwn) hq (fun j hj => absurd hj (Nat.not_lt_zero j)) (fun x y r _ _ s p => own_step r s p) sg l).2.2
end Go.Proofs.Ytpkckgdpdnkbeaa
