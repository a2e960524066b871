/- What the reference's DividedOf answers: quotient and rest, the highest factor away one by one: they are those of the division, for all lists of bytes of no more than 64 each whose divisor is not nought. -/
import Derived.Test.YtlccdceeppfleaaShift
namespace Go.Proofs.Ytlccdceeppfleaa
open Go.ChangeShapes Go.WideShapes Go.ChangeAt Go.RowKit Go.Shelf
theorem xor_pair (a b c : Nat) : a ^^^ b = (a ^^^ c) ^^^ (b ^^^ c) := by
  apply Nat.eq_of_testBit_eq
  intro i
  simp only [Nat.testBit_xor]
  cases a.testBit i <;> cases b.testBit i <;> cases c.testBit i <;> rfl
/-- there is one quotient and one rest alone -/
theorem div_one {B Q1 Q2 R1 R2 : List Nat} (hB : Byt B) (hb : 0 < B.length) (h0 : co B (B.length - 1) ≠ 0) (h1 : Byt Q1) (h2 : Byt Q2) (l1 : R1.length < B.length) (l2 : R2.length < B.length)
    (e : ∀ j, co R1 j ^^^ M B (co Q1) j = co R2 j ^^^ M B (co Q2) j) : trim Q1 = trim Q2 ∧ trim R1 = trim R2 := by
  have e' : ∀ j, M B (co (plus Q1 Q2)) j = co R1 j ^^^ co R2 j := by
    intro j
    rw [show co (plus Q1 Q2) = fun k => co Q1 k ^^^ co Q2 k from funext fun k => co_plus _ _ k, M_add]
    have := e j
    generalize co R1 j = a at *
    generalize co R2 j = b at *
    generalize M B (co Q1) j = c at *
    generalize M B (co Q2) j = d at *
    have h : a ^^^ b ^^^ (a ^^^ c ^^^ (b ^^^ d)) = c ^^^ d := by
      apply Nat.eq_of_testBit_eq
      intro i
      simp only [Nat.testBit_xor]
      cases a.testBit i <;> cases b.testBit i <;> cases c.testBit i <;> cases d.testBit i <;> rfl
    rw [this, Nat.xor_self, Nat.xor_zero] at h
    exact h.symm
  have z : (trim (plus Q1 Q2)).length = 0 := by
    apply Nat.eq_zero_of_not_pos
    intro c
    have top := M_top B (g := co (trim (plus Q1 Q2))) (m := (trim (plus Q1 Q2)).length - 1) (fun k hk => co_high (by omega)) (n := B.length - 1) (by omega)
    rw [show co (trim (plus Q1 Q2)) = co (plus Q1 Q2) from funext (co_trim _), e', co_high (by omega), co_high (by omega)] at top
    rcases (Gf.gm_eq_zero (co_lt hB _) (co_lt (byt_plus h1 h2) _)).1 top.symm with d | d
    · exact h0 d
    · rw [← co_trim] at d; exact co_top c d
  have z' : ∀ k, co (plus Q1 Q2) k = 0 := fun k => by rw [← co_trim]; exact co_high (by omega)
  constructor
  · refine trim_ext fun k => ?_
    have := z' k
    rw [co_plus] at this
    exact xor_zero_eq this
  · refine trim_ext fun k => ?_
    have := e' k
    rw [show co (plus Q1 Q2) = fun _ => 0 from funext z', M_zero] at this
    exact xor_zero_eq this.symm
/-- what holds while the reference divides -/
structure DvS (P B R O : List Nat) : Prop where
  eq : ∀ j, co P j = co R j ^^^ M B (co O) j
  bR : Byt R
  bO : Byt O
  tR : trim R = R
  tO : trim O = O
  lR : R.length ≤ 64
  lO : O.length ≤ 64
theorem co_one_sh (n f : Nat) (hf : f < 256) (j : Nat) : co (shl [1] n f) j = dl n f j := by
  rw [co_shl, dl]
  by_cases h : j = n
  · subst h
    rw [if_pos (Nat.le_refl _), if_pos rfl, Nat.sub_self]
    exact Gf.gm_oneL hf
  · rw [if_neg h]
    by_cases h2 : n ≤ j
    · rw [if_pos h2, co_high (by simp; omega), Gf.gm_zeroL]
    · rw [if_neg h2]
theorem len_trim_plus (A B : List Nat) {m : Nat} (ha : A.length ≤ m) (hb : B.length ≤ m) : (trim (plus A B)).length ≤ m := by
  have := trim_len (plus A B)
  unfold plus at this
  rw [plusN_len] at this
  unfold plus
  omega
theorem dv_step {P B R O : List Nat} (hB : Byt B) (hb : 0 < B.length) (h0 : co B (B.length - 1) ≠ 0) (h : DvS P B R O) (hl : B.length ≤ R.length) {f n : Nat} (hf : f = Gf.gm (co R (R.length - 1)) (Gf.inv (co B (B.length - 1)))) (hn : n = R.length - B.length) :
    DvS P B (trim (plus R (shl B n f))) (trim (plus O (shl [1] n f))) ∧ (trim (plus R (shl B n f))).length < R.length := by
  have hr := co_lt h.bR (R.length - 1)
  have hbl := co_lt hB (B.length - 1)
  have hfl : f < 256 := by rw [hf]; exact Gf.gm_lt hr
  have lr := h.lR
  have h1b : Byt [1] := by intro x hx; simp at hx; omega
  refine ⟨⟨fun j => ?_, byt_trim (byt_plus h.bR (byt_shl hB _ _)), byt_trim (byt_plus h.bO (byt_shl h1b _ _)), trim_trim _, trim_trim _, ?_, ?_⟩, ?_⟩
  · rw [co_trim, co_plus, co_shl, show co (trim (plus O (shl [1] n f))) = fun k => co O k ^^^ dl n f k from funext fun k => by rw [co_trim, co_plus, co_one_sh n f hfl], M_add, M_dl, h.eq j]
    exact xor_pair _ _ _
  · exact len_trim_plus _ _ lr (by rw [shl_len]; omega)
  · exact len_trim_plus _ _ h.lO (by rw [shl_len]; simp; omega)
  · apply Nat.lt_of_not_le
    intro c
    have n1 := co_top (L := plus R (shl B n f)) (by omega)
    rw [co_trim, co_plus, co_shl] at n1
    have hle : (trim (plus R (shl B n f))).length ≤ R.length := len_trim_plus _ _ (Nat.le_refl _) (by rw [shl_len]; omega)
    have he : (trim (plus R (shl B n f))).length = R.length := by omega
    rw [he, if_pos (by omega), show R.length - 1 - n = B.length - 1 by omega] at n1
    apply n1
    rw [hf, ← Gf.gm_assoc hbl hr, Gf.gm_comm hbl hr, Gf.gm_assoc hr hbl, Gf.gm_inv' hbl h0, Gf.gm_oneR hr, Nat.xor_self]
theorem dv_end {P Q R O : List Nat} (hP : Byt P) (hQ : Byt Q) (h0 : trim Q ≠ []) (h : DvS P (trim Q) R O) (hl : R.length < (trim Q).length) : O = pdq P Q ∧ R = pdr P Q := by
  obtain ⟨h1, h2, h3, h4, h5⟩ := div_fin hP hQ h0
  have hb : 0 < (trim Q).length := List.length_pos_iff.2 h0
  obtain ⟨a, b⟩ := div_one (byt_trim hQ) hb (co_top hb) h.bO h4 hl h2 (fun j => (h.eq j).symm.trans (h1 j))
  rw [h.tO, show trim (pdq P Q) = pdq P Q from trim_trim _] at a
  rw [h.tR, show trim (pdr P Q) = pdr P Q from trim_trim _] at b
  exact ⟨a, b⟩
theorem dv_begin {P B : List Nat} (hP : Byt P) (hl : P.length ≤ 64) : DvS P B (trim P) [] := by
  refine ⟨fun j => ?_, byt_trim hP, (by intro x hx; cases hx), trim_trim _, rfl, (by have := trim_len P; omega), (by simp)⟩
  rw [co_trim, show co [] = fun _ => 0 from funext co_nil, M_zero, Nat.xor_zero]
theorem bs_lit1 {w : World} (x : Nat) (hx : x < 256) : Bs (w.heap.size + 1) (w.alloc (.cells #[.int .u8 (x : Nat)] 5)) (.slice (some ⟨w.heap.size, 0, none⟩) 1 1) [x] := by
  refine ⟨by simp; omega, by simp, _, _, rfl, by simp, by simp, .inr ⟨w.heap.size, 0, rfl, by omega, fun j hj => ?_⟩⟩
  match j with
  | 0 => simp [go_sem]
  | j + 1 => simp at hj
/-- how long a slice is -/
def lenV : Value → Nat
  | .slice _ n _ => n
  | _ => 0
theorem shapeOf {n : Nat} {w : World} {v : Value} {L : List Nat} (h : Bs n w v L) : ∃ a c, v = .slice a L.length c := by
  obtain ⟨_, _, a, c, h, _⟩ := h
  exact ⟨a, c, h⟩
theorem cellOf {n : Nat} {w : World} {a : Option Addr} {c l : Nat} {L : List Nat} (h : Bs n w (.slice a l c) L) {j : Nat} (hj : j < L.length) : ∃ b off, a = some ⟨b, off, none⟩ ∧ w.cell? ⟨b, off + j, none⟩ = some (.int .u8 (co L j : Nat)) := by
  obtain ⟨_, _, a', c', h, _, _, h6⟩ := h
  injection h with h _ _
  subst h
  rcases h6 with h | ⟨b, off, e, _, hc⟩
  · rw [h] at hj; simp at hj
  · exact ⟨b, off, e, hc j hj⟩
set_option maxRecDepth 100000 in
set_option maxHeartbeats 1000000 in
theorem divOf_long (pv qv : Value) (P Q : List Nat) (w : World) (hP : Bs w.heap.size w pv P) (hQ : Bs w.heap.size w qv Q) (h : 64 < P.length ∨ 64 < Q.length) :
    Calls Try.prog 13 #[pv, qv] w fun e w' => e = .returned (.tuple #[.slice none 0 0, .slice none 0 0, .int .i64 2]) ∧ w' = w := by
  obtain ⟨_, p2, ao, cap, rfl, _⟩ := hP
  obtain ⟨_, q2, bo, cbp, rfl, _⟩ := hQ
  by_cases c : 64 < P.length
  · have z : decide ((64 : Int) < (P.length : Int)) = true := decide_eq_true (by omega)
    go_enter Try.func13, Try.ntmps13
    go_wp2_with fail
    go_ret3
    exact ⟨rfl, rfl⟩
  · have z : decide ((64 : Int) < (P.length : Int)) = false := decide_eq_false (by omega)
    have z2 : decide ((64 : Int) < (Q.length : Int)) = true := decide_eq_true (by omega)
    go_enter Try.func13, Try.ntmps13
    go_wp2_with fail
    go_ret3
    exact ⟨rfl, rfl⟩
set_option maxRecDepth 100000 in
set_option maxHeartbeats 4000000 in
theorem divOf_none (pv qv : Value) (P Q : List Nat) (w : World) (hP : Bs w.heap.size w pv P) (hQ : Bs w.heap.size w qv Q) (lp : P.length ≤ 64) (lq : Q.length ≤ 64) (h0 : trim Q = []) :
    Calls Try.prog 13 #[pv, qv] w fun e w' => e = .returned (.tuple #[.slice none 0 0, .slice none 0 0, .int .i64 5]) ∧ Below w.heap.size w w' := by
  have HP := hid_of hP
  have HQ := hid_of hQ
  have H0 := hid_of h0
  obtain ⟨_, p2, ao, cap, rfl, _⟩ := hP
  obtain ⟨_, q2, bo, cbp, rfl, _⟩ := hQ
  have z : decide ((64 : Int) < (P.length : Int)) = false := decide_eq_false (by omega)
  have z2 : decide ((64 : Int) < (Q.length : Int)) = false := decide_eq_false (by omega)
  clear h0
  go_enter Try.func13, Try.ntmps13
  go_wp2_with fail
  refine (trimOf_any _ P _ HP.out).mono ?_
  rintro e w1 ⟨v1, rfl, hO1, hB1⟩
  have B1 := hid_of hB1
  clear hO1 hB1
  go_wp2_with fail
  refine (trimOf_any _ Q _ ((HQ.out.below B1.out).mono B1.out.size)).mono ?_
  rintro e w2 ⟨v2, rfl, hO2, hB2⟩
  rw [H0.out] at hO2
  obtain ⟨a2, c2, hsh⟩ := hO2.shape
  subst hsh
  have B2 := hid_of (B1.out.trans (hB2.mono B1.out.size))
  clear hO2 hB2
  go_wp2_with fail
  go_ret3
  exact ⟨rfl, B2.out⟩
set_option maxRecDepth 100000 in
set_option maxHeartbeats 8000000 in
theorem divOf_any (pv qv : Value) (P Q : List Nat) (w : World) (hP : Bs w.heap.size w pv P) (hQ : Bs w.heap.size w qv Q) (lp : P.length ≤ 64) (lq : Q.length ≤ 64) (h0 : trim Q ≠ []) :
    Calls Try.prog 13 #[pv, qv] w fun e w' => (∃ v r, e = .returned (.tuple #[v, r, .int .i64 0]) ∧ Bs w'.heap.size w' v (pdq P Q) ∧ Bs w'.heap.size w' r (pdr P Q)) ∧ Below w.heap.size w w' := by
  have HP := hid_of hP
  have HQ := hid_of hQ
  have hb : 0 < (trim Q).length := List.length_pos_iff.2 h0
  have HE := hid_of (fun R O => dv_end (R := R) (O := O) hP.1 hQ.1 h0)
  have HS := hid_of (fun R O => dv_step (P := P) (R := R) (O := O) (byt_trim hQ.1) hb (co_top hb))
  have HG := hid_of (dv_begin (B := trim Q) hP.1 lp)
  have HT := hid_of (co_top hb)
  have HBy := hid_of (byt_trim hQ.1)
  have hbl : (trim Q).length ≤ 64 := by have := trim_len Q; omega
  obtain ⟨B, hBe⟩ : ∃ B, trim Q = B := ⟨_, rfl⟩
  rw [hBe] at HE HS HG HT HBy hb hbl
  obtain ⟨T, hTe⟩ : ∃ T, trim P = T := ⟨_, rfl⟩
  rw [hTe] at HG
  have QE := hid_of hBe
  have PE := hid_of hTe
  obtain ⟨_, p2, ao, cap, rfl, _⟩ := hP
  obtain ⟨_, q2, bo, cbp, rfl, _⟩ := hQ
  have z : decide ((64 : Int) < (P.length : Int)) = false := decide_eq_false (by omega)
  have z2 : decide ((64 : Int) < (Q.length : Int)) = false := decide_eq_false (by omega)
  have z3 : ((B.length : Int) == 0) = false := by rw [beq_eq_false_iff_ne]; omega
  clear h0 hBe hTe
  go_enter Try.func13, Try.ntmps13
  go_wp2_with fail
  refine (trimOf_any _ P _ HP.out).mono ?_
  rintro e w1 ⟨v1, rfl, hO1, hB1⟩
  rw [PE.out] at hO1
  have B1 := hid_of hB1
  have T1 := hid_of hO1.bs
  clear hO1 hB1
  go_wp2_with fail
  refine (trimOf_any _ Q _ ((HQ.out.below B1.out).mono B1.out.size)).mono ?_
  rintro e w2 ⟨v2, rfl, hO2, hB2⟩
  rw [QE.out] at hO2
  obtain ⟨a2, c2, hsh⟩ := hO2.shape
  subst hsh
  have Q2 := hid_of hO2.bs
  have T2 := hid_of ((T1.out.below hB2).mono hB2.size)
  have B2 := hid_of (B1.out.trans (hB2.mono B1.out.size))
  clear hO2 hB2 T1 B1
  go_wp2_with fail
  go_loopw [0, 7] (fun p o w' => ∃ R O, Hid (DvS P B R O) ∧ Hid (Bs w'.heap.size w' p R) ∧ Hid (Bs w'.heap.size w' o O) ∧ Hid (Below w2.heap.size w2 w')) (fun p _ _ => lenV p)
  case atStart => exact ⟨T, [], HG, T2, Bs.nil _ _, Below.refl _ _⟩
  case round =>
    obtain ⟨R, O, HD, HR, HO, HB⟩ := hrel
    obtain ⟨ra, rc, hvs⟩ := shapeOf HR.out
    obtain ⟨lr, hlr⟩ : ∃ n, R.length = n := ⟨_, rfl⟩
    obtain ⟨lb, hlb⟩ : ∃ n, B.length = n := ⟨_, rfl⟩
    rw [hlr] at hvs
    subst hvs
    have LR := hid_of hlr
    have LB := hid_of hlb
    have hl64 : lr ≤ 64 := by rw [← hlr]; exact HD.out.lR
    rw [hlb] at hb hbl ⊢
    by_cases c : lb ≤ lr
    · have t1 : decide ((lb : Int) ≤ (lr : Int)) = true := decide_eq_true (by omega)
      have t2 : decide (lb ≤ lr) = true := decide_eq_true c
      have s1 : IntKind.i64.wrap ((lr : Int) - 1) = ((lr - 1 : Nat) : Int) := by rw [IntKind.wrap_i64]; omega
      have s2 : IntKind.i64.wrap ((lb : Int) - 1) = ((lb - 1 : Nat) : Int) := by rw [IntKind.wrap_i64]; omega
      have s3 : IntKind.i64.wrap ((lr : Int) - (lb : Int)) = ((lr - lb : Nat) : Int) := by rw [IntKind.wrap_i64]; omega
      have hQw := (Q2.out.below HB.out)
      rw [hlb] at hQw
      obtain ⟨b1, o1, e1, hx⟩ := cellOf HR.out (j := lr - 1) (by omega)
      obtain ⟨b2, o2, e2, hy⟩ := cellOf hQw (j := lb - 1) (by omega)
      subst e1
      subst e2
      have hst := HS.out R O HD.out (by omega) (f := Gf.gm (co R (lr - 1)) (Gf.inv (co B (lb - 1)))) (n := lr - lb) (by rw [hlr, hlb]) (by omega)
      have hx2 := co_lt HD.out.bR (lr - 1)
      have hy2 := co_lt HBy.out (lb - 1)
      have hy0 := HT.out
      rw [hlb] at hy0
      obtain ⟨x, hxe⟩ : ∃ x, co R (lr - 1) = x := ⟨_, rfl⟩
      obtain ⟨y, hye⟩ : ∃ x, co B (lb - 1) = x := ⟨_, rfl⟩
      rw [hxe] at hx hx2 hst
      rw [hye] at hy hy2 hy0 hst
      have hf : Gf.gm x (Gf.inv y) < 256 := Gf.gm_lt hx2
      obtain ⟨f, hfe⟩ : ∃ f, Gf.gm x (Gf.inv y) = f := ⟨_, rfl⟩
      rw [hfe] at hf hst
      have HFE := hid_of hfe
      obtain ⟨i1, hi1⟩ : ∃ i, lr - 1 = i := ⟨_, rfl⟩
      obtain ⟨i2, hi2⟩ : ∃ i, lb - 1 = i := ⟨_, rfl⟩
      obtain ⟨n, hn⟩ : ∃ i, lr - lb = i := ⟨_, rfl⟩
      rw [hi1] at s1 hx
      rw [hi2] at s2 hy
      rw [hn] at s3 hst
      have HST := hid_of hst
      have q1 : (i1 : Int) < (lr : Int) := by omega
      have q2 : (i2 : Int) < (lb : Int) := by omega
      have q3 : i1 < lr := by omega
      have q4 : i2 < lb := by omega
      have q5 : n ≤ 64 := by omega
      clear hst hxe hye hfe hlr hlb hi1 hi2 hn
      go_wp2_with fail
      go_quiet (first | (go_at_call 29; refine Calls.quiet_of_same (quotOf_any x y _ (by omega) (by omega) (by omega))))
      rw [HFE.out]
      have R3 : Hid (Bs (wr.drewN nq).heap.size (wr.drewN nq) (.slice (some ⟨b1, o1, none⟩) lr rc) R) := HR.out
      have O3 : Hid (Bs (wr.drewN nq).heap.size (wr.drewN nq) u7 O) := HO.out
      have B3 := hid_of (below_drewN nq HB.out)
      clear HR HO HB
      generalize wr.drewN nq = w3 at *
      have B4 := hid_of (B3.out.alloc B3.out.size (.cells #[.int .u8 ((1 : Nat) : Int)] 5))
      have X4 := hid_of (bs_lit1 (w := w3) 1 (by decide))
      have C4 := hid_of ((Below.refl w3.heap.size w3).alloc (Nat.le_refl _) (.cells #[.int .u8 ((1 : Nat) : Int)] 5))
      have R4 := hid_of ((R3.out.below C4.out).mono C4.out.size)
      have O4 := hid_of ((O3.out.below C4.out).mono C4.out.size)
      have Q4 := hid_of ((Q2.out.below B4.out).mono B4.out.size)
      clear R3 O3 B3 C4
      go_wp2_with fail
      refine (shifted_any _ [1] n f _ (X4.out.mono (by simp)) (by simp) (by omega) hf).mono ?_
      rintro e w5 ⟨v5, rfl, hO5, hB5⟩
      have B5 := hid_of (B4.out.trans (hB5.mono B4.out.size))
      have R5 := hid_of ((R4.out.below hB5).mono hB5.size)
      have O5 := hid_of ((O4.out.below hB5).mono hB5.size)
      have Q5 := hid_of ((Q4.out.below hB5).mono hB5.size)
      have S5 := hid_of hO5.bs
      clear hO5 hB5 B4 X4 R4 O4 Q4
      go_wp2_with fail
      refine (plusOf_any _ _ O (shl [1] n f) _ O5.out S5.out).mono ?_
      rintro e w6 ⟨v6, rfl, hO6, hB6⟩
      have B6 := hid_of (B5.out.trans (hB6.mono B5.out.size))
      have R6 := hid_of ((R5.out.below hB6).mono hB6.size)
      have Q6 := hid_of ((Q5.out.below hB6).mono hB6.size)
      have O6 := hid_of hO6.bs
      clear hO6 hB6 B5 R5 O5 Q5 S5
      go_wp2_with fail
      refine (shifted_any _ B n f _ (by have := Q6.out; rw [LB.out] at this; exact this) (by rw [LB.out]; omega) (by omega) hf).mono ?_
      rintro e w7 ⟨v7, rfl, hO7, hB7⟩
      have B7 := hid_of (B6.out.trans (hB7.mono B6.out.size))
      have R7 := hid_of ((R6.out.below hB7).mono hB7.size)
      have O7 := hid_of ((O6.out.below hB7).mono hB7.size)
      have S7 := hid_of hO7.bs
      clear hO7 hB7 B6 R6 O6 Q6
      go_wp2_with fail
      refine (plusOf_any _ _ R (shl B n f) _ R7.out S7.out).mono ?_
      rintro e w8 ⟨v8, rfl, hO8, hB8⟩
      have B8 := hid_of (B7.out.trans (hB8.mono B7.out.size))
      have O8 := hid_of ((O7.out.below hB8).mono hB8.size)
      have R8 := hid_of hO8.bs
      have hsz : lenV v8 < lr := by
        obtain ⟨a8, c8, h8⟩ := hO8.shape
        have := HST.out.2
        rw [LR.out] at this
        rw [h8]
        exact this
      clear hO8 hB8 B7 R7 O7 S7
      go_wp2_with fail
      go_roundw
      case rel => exact ⟨trim (plus R (shl B n f)), trim (plus O (shl [1] n f)), hid_of HST.out.1, R8, O8, B8⟩
      case measure => exact hsz
    · have t1 : decide ((lb : Int) ≤ (lr : Int)) = false := decide_eq_false (by omega)
      have t2 : decide (lb ≤ lr) = false := decide_eq_false c
      have hend := HE.out R O HD.out (by omega)
      have HEN := hid_of hend
      clear hend
      go_wp2_with fail
      go_ret3
      refine ⟨⟨_, _, rfl, ?_, ?_⟩, B2.out.trans (HB.out.mono B2.out.size)⟩
      · rw [← HEN.out.1]; exact HO.out
      · rw [← HEN.out.2]; exact HR.out
end Go.Proofs.Ytlccdceeppfleaa
