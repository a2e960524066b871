/- For every two lists of lists of bytes MatrixRank answers true, and nothing that was handed in is changed. -/
import Derived.Test.YtjpibfnkchbglaaRows
import Derived.Test.YtjpibfnkchbglaaBegun
import Derived.Test.YtjpibfnkchbglaaTurn
import Derived.Test.YtjpibfnkchbglaaArg
import Derived.WalkKit
import Derived.ProofKit
import Derived.OpenShut
import Derived.ShutString
import Derived.ChangeOld
import Derived.Below
import Derived.SizedLaws
namespace Go.Proofs.Ytjpibfnkchbglaa.matrixRank
open Go.ChangeShapes Go.WideShapes Go.ChangeAt Go.RowKit
open Go.ChangeMaps (open_string shut_string)
set_option linter.unusedVariables false

theorem own : ownKnob Try.prog.godebug = none := by kernel_rfl
theorem laidOut : laidOutB Try.prog = true := by kernel_rfl

set_option maxRecDepth 100000 in
set_option maxHeartbeats 16000000 in
theorem walk_err (v0 : Value) (A : List (List Nat)) (v1 : Value) (w : World) (h0 : Mx w.heap.size w v0 A) (h : chk A ≠ 0) :
    Calls Try.prog 7 #[v0, v1] w fun e w' => e = .returned (.bool true) ∧ Below w.heap.size w w' := by
  have HR := hid_of (rank_chk v0 A w h0 h)
  obtain ⟨x, hx⟩ : ∃ x, chk A = x := ⟨_, rfl⟩
  rw [hx] at h HR
  have z : ((x : Int) != 0) = true := by rw [bne_iff_ne]; omega
  have BB := hid_of (Below.refl w.heap.size w)
  clear h0 hx
  go_enter Try.func7, Try.ntmps7
  go_wp2_with fail
  refine HR.out.mono ?_
  rintro e w_1 ⟨rfl, hB⟩
  have BB := hid_of (BB.out.trans (hB.mono BB.out.size))
  clear hB
  go_wp2_with fail
  refine (begun_any _).mono ?_
  rintro e w_2 ⟨rfl, hB⟩
  have BB := hid_of (BB.out.trans (hB.mono BB.out.size))
  clear hB
  go_wp2_with fail
  go_ret
  exact ⟨rfl, BB.out⟩
theorem turn_laws {A : List (List Nat)} {n c : Nat} (hA : Bym A) (rA : Rect A n c) : chk (tab c n (tf A)) = 0 ∧ rk (tab c n (tf A)) = rk A ∧ rk A ≤ n ∧ rk A ≤ c := by
  have hb : Bm n c (ent A) := fun i j _ _ => hA i j
  have ht : Bm c n (tf A) := fun i j _ _ => hA j i
  refine ⟨rect_chk (tab_rect (tf A) rA.c1 rA.c16 rA.n1 rA.n16), ?_, ?_, ?_⟩
  · rw [rk_tab rA.c1 rA.c16 rA.n1 rA.n16 ht, rk_of rA]
    exact rank_turn hb
  · rw [rk_of rA]; exact rank_rows hb
  · rw [rk_of rA]; exact rank_cols hb
theorem mul_rank {A B : List (List Nat)} (hA : Bym A) (hB : Bym B) (h : mme A B = 0) : chk B = 0 ∧ chk (mmp A B) = 0 ∧ rk (mmp A B) ≤ rk A ∧ rk (mmp A B) ≤ rk B := by
  obtain ⟨rA, rB⟩ := mme_zero h
  obtain ⟨_, p2⟩ := mme_of rA rB
  rw [p2]
  have rP := tab_rect (pf A B B.length) rA.n1 rA.n16 rB.c1 rB.c16
  have ha : Bm A.length B.length (ent A) := fun i j _ _ => hA i j
  have hb : Bm B.length (B[0]?.getD []).length (ent B) := fun i j _ _ => hB i j
  have hp : Bm A.length (B[0]?.getD []).length (pf A B B.length) := fun i j _ _ => dot_lt fun l _ => hA i l
  obtain ⟨q1, q2⟩ := rank_mul ha hb
  refine ⟨rect_chk rB, rect_chk rP, ?_, ?_⟩
  · rw [rk_tab rA.n1 rA.n16 rB.c1 rB.c16 hp, rk_of rA]; exact q1
  · rw [rk_tab rA.n1 rA.n16 rB.c1 rB.c16 hp, rk_of rB]; exact q2
set_option maxRecDepth 100000 in
set_option maxHeartbeats 16000000 in
theorem walk_ok (v0 : Value) (A : List (List Nat)) (v1 : Value) (B : List (List Nat)) (w : World) (h0 : Mx w.heap.size w v0 A) (h1 : Mx w.heap.size w v1 B) (h : chk A = 0) :
    Calls Try.prog 7 #[v0, v1] w fun e w' => e = .returned (.bool true) ∧ Below w.heap.size w w' := by
  have HA := hid_of h0
  have HB := hid_of h1
  have bA : Bym A := h0.lt
  have bB : Bym B := h1.lt
  have rA := chk_rect h
  obtain ⟨t1, t2, t3, t4⟩ := turn_laws bA rA
  have HMR := hid_of (mul_rank bA bB)
  have HRI := hid_of (fun n => rank_inv (n := n) bA)
  have n1 := rA.n1
  have n16 := rA.n16
  have c16 := rA.c16
  have RA := hid_of rA
  have HK := hid_of h
  obtain ⟨a0, ca, hva⟩ := HA.out.shape
  subst hva
  obtain ⟨n, hn⟩ : ∃ n, A.length = n := ⟨_, rfl⟩
  obtain ⟨c, hc⟩ : ∃ n, (A[0]?.getD []).length = n := ⟨_, rfl⟩
  obtain ⟨r, hr⟩ : ∃ n, rk A = n := ⟨_, rfl⟩
  rw [hn, hc] at RA t1 t2
  rw [hr] at t2 t3 t4
  rw [hn] at t3 n1 n16 HA ⊢
  rw [hc] at t4 c16
  have T1 := hid_of t1
  have T2 := hid_of t2
  have HR := hid_of hr
  have HC0 := hid_of hc
  have HN0 := hid_of hn
  obtain ⟨ei, hei⟩ : ∃ n, ive A = n := ⟨_, rfl⟩
  obtain ⟨em, hem⟩ : ∃ n, mme A B = n := ⟨_, rfl⟩
  have EI := hid_of hei
  have EM := hid_of hem
  have y1 : decide ((n : Int) < (r : Int)) = false := decide_eq_false (by omega)
  have y2 : decide (n < r) = false := decide_eq_false (by omega)
  have y3 : decide ((c : Int) < (r : Int)) = false := decide_eq_false (by omega)
  have y4 : decide (c < r) = false := decide_eq_false (by omega)
  have BB := hid_of (Below.refl w.heap.size w)
  clear h0 h1 bA bB rA t1 t2 h hn hc hr hei hem
  go_enter Try.func7, Try.ntmps7
  go_wp2_with fail
  refine (rank_go _ A _ HA.out HK.out r HR.out).mono ?_
  rintro e w_1 ⟨rfl, hB⟩
  have HA := hid_of ((HA.out.below hB).mono hB.size)
  have HB := hid_of ((HB.out.below hB).mono hB.size)
  have BB := hid_of (BB.out.trans (hB.mono BB.out.size))
  clear hB
  go_wp2_with fail
  refine (begun_any _).mono ?_
  rintro e w_2 ⟨rfl, hB⟩
  have HA := hid_of ((HA.out.below hB).mono hB.size)
  have HB := hid_of ((HB.out.below hB).mono hB.size)
  have BB := hid_of (BB.out.trans (hB.mono BB.out.size))
  clear hB
  go_wp2_with fail
  refine (turn_ok _ A c n _ HA.out RA.out).mono ?_
  rintro e w_3 ⟨vt, rfl, hT, hB⟩
  have HA := hid_of ((HA.out.below hB).mono hB.size)
  have HB := hid_of ((HB.out.below hB).mono hB.size)
  have BB := hid_of (BB.out.trans (hB.mono BB.out.size))
  have HT := hid_of hT
  clear hB hT
  go_wp2_with fail
  refine (rank_go _ _ _ HT.out T1.out r T2.out).mono ?_
  rintro e w_4 ⟨rfl, hB⟩
  have HA := hid_of ((HA.out.below hB).mono hB.size)
  have HB := hid_of ((HB.out.below hB).mono hB.size)
  have HT := hid_of ((HT.out.below hB).mono hB.size)
  have BB := hid_of (BB.out.trans (hB.mono BB.out.size))
  clear hB
  obtain ⟨b1, o1, r1, k1, he, hx, _⟩ := HA.out.at (j := 0) (by rw [HN0.out]; omega)
  subst he
  rw [HC0.out, Nat.add_zero] at hx
  go_wp2_with fail
  refine (inverse_all _ A _ HA.out ei EI.out).mono ?_
  rintro e w_5 ⟨vi, rfl, hI, hB⟩
  have hx := (hB.cell (p := ⟨b1, o1, none⟩) (cell_lt hx)).trans hx
  clear hI
  have HA := hid_of ((HA.out.below hB).mono hB.size)
  have HB := hid_of ((HB.out.below hB).mono hB.size)
  have HT := hid_of ((HT.out.below hB).mono hB.size)
  have BB := hid_of (BB.out.trans (hB.mono BB.out.size))
  clear hB
  by_cases q : n = c
  · have q1 : ((n : Int) == (c : Int)) = true := by rw [q]; simp
    have hri := HRI.out n (by have := RA.out; rw [← q] at this; exact this)
    rw [EI.out, HR.out] at hri
    by_cases e0 : ei = 0
    · have g1 : ((ei : Int) == 0) = true := by rw [e0]; rfl
      have g2 : ((r : Int) == (n : Int)) = true := by rw [hri.1 e0]; simp
      clear q hri e0
      go_wp2_with fail
      refine (mmul_all _ _ A B _ HA.out HB.out em EM.out).mono ?_
      rintro e w_6 ⟨vp, rfl, hP, hB⟩
      have HA := hid_of ((HA.out.below hB).mono hB.size)
      have HB := hid_of ((HB.out.below hB).mono hB.size)
      have HT := hid_of ((HT.out.below hB).mono hB.size)
      have BB := hid_of (BB.out.trans (hB.mono BB.out.size))
      have HP := hid_of hP
      clear hB hP
      by_cases d : em = 0
      · subst d
        obtain ⟨p1, p2, p3, p4⟩ := HMR.out EM.out
        rw [HR.out] at p3
        obtain ⟨rp, hrp⟩ : ∃ n, rk (mmp A B) = n := ⟨_, rfl⟩
        obtain ⟨rb, hrb⟩ : ∃ n, rk B = n := ⟨_, rfl⟩
        rw [hrp] at p3 p4
        rw [hrb] at p4
        have P1 := hid_of p1
        have P2 := hid_of p2
        have HRP := hid_of hrp
        have HRB := hid_of hrb
        have x1 : decide ((rp : Int) ≤ (r : Int)) = true := decide_eq_true (by omega)
        have x2 : decide (rp ≤ r) = true := decide_eq_true p3
        have x3 : decide ((rp : Int) ≤ (rb : Int)) = true := decide_eq_true (by omega)
        have x4 : decide (rp ≤ rb) = true := decide_eq_true p4
        clear p1 p2 hrp hrb
        go_wp2_with fail
        refine (rank_go _ _ _ HP.out P2.out rp HRP.out).mono ?_
        rintro e w_7 ⟨rfl, hB⟩
        have HA := hid_of ((HA.out.below hB).mono hB.size)
        have HB := hid_of ((HB.out.below hB).mono hB.size)
        have HT := hid_of ((HT.out.below hB).mono hB.size)
        have HP := hid_of ((HP.out.below hB).mono hB.size)
        have BB := hid_of (BB.out.trans (hB.mono BB.out.size))
        clear hB
        go_wp2_with fail
        refine (rank_go _ B _ HB.out P1.out rb HRB.out).mono ?_
        rintro e w_8 ⟨rfl, hB⟩
        have HA := hid_of ((HA.out.below hB).mono hB.size)
        have HB := hid_of ((HB.out.below hB).mono hB.size)
        have HT := hid_of ((HT.out.below hB).mono hB.size)
        have HP := hid_of ((HP.out.below hB).mono hB.size)
        have BB := hid_of (BB.out.trans (hB.mono BB.out.size))
        clear hB
        go_wp2_with fail
        go_ret
        exact ⟨rfl, BB.out⟩
      · have z2 : ((em : Int) != 0) = true := by rw [bne_iff_ne]; omega
        go_wp2_with fail
        go_ret
        exact ⟨rfl, BB.out⟩
    · have g1 : ((ei : Int) == 0) = false := by rw [beq_eq_false_iff_ne]; omega
      have g2 : ((r : Int) == (n : Int)) = false := by rw [beq_eq_false_iff_ne]; intro hh; exact e0 (hri.2 (by omega))
      clear q hri e0
      go_wp2_with fail
      refine (mmul_all _ _ A B _ HA.out HB.out em EM.out).mono ?_
      rintro e w_6 ⟨vp, rfl, hP, hB⟩
      have HA := hid_of ((HA.out.below hB).mono hB.size)
      have HB := hid_of ((HB.out.below hB).mono hB.size)
      have HT := hid_of ((HT.out.below hB).mono hB.size)
      have BB := hid_of (BB.out.trans (hB.mono BB.out.size))
      have HP := hid_of hP
      clear hB hP
      by_cases d : em = 0
      · subst d
        obtain ⟨p1, p2, p3, p4⟩ := HMR.out EM.out
        rw [HR.out] at p3
        obtain ⟨rp, hrp⟩ : ∃ n, rk (mmp A B) = n := ⟨_, rfl⟩
        obtain ⟨rb, hrb⟩ : ∃ n, rk B = n := ⟨_, rfl⟩
        rw [hrp] at p3 p4
        rw [hrb] at p4
        have P1 := hid_of p1
        have P2 := hid_of p2
        have HRP := hid_of hrp
        have HRB := hid_of hrb
        have x1 : decide ((rp : Int) ≤ (r : Int)) = true := decide_eq_true (by omega)
        have x2 : decide (rp ≤ r) = true := decide_eq_true p3
        have x3 : decide ((rp : Int) ≤ (rb : Int)) = true := decide_eq_true (by omega)
        have x4 : decide (rp ≤ rb) = true := decide_eq_true p4
        clear p1 p2 hrp hrb
        go_wp2_with fail
        refine (rank_go _ _ _ HP.out P2.out rp HRP.out).mono ?_
        rintro e w_7 ⟨rfl, hB⟩
        have HA := hid_of ((HA.out.below hB).mono hB.size)
        have HB := hid_of ((HB.out.below hB).mono hB.size)
        have HT := hid_of ((HT.out.below hB).mono hB.size)
        have HP := hid_of ((HP.out.below hB).mono hB.size)
        have BB := hid_of (BB.out.trans (hB.mono BB.out.size))
        clear hB
        go_wp2_with fail
        refine (rank_go _ B _ HB.out P1.out rb HRB.out).mono ?_
        rintro e w_8 ⟨rfl, hB⟩
        have HA := hid_of ((HA.out.below hB).mono hB.size)
        have HB := hid_of ((HB.out.below hB).mono hB.size)
        have HT := hid_of ((HT.out.below hB).mono hB.size)
        have HP := hid_of ((HP.out.below hB).mono hB.size)
        have BB := hid_of (BB.out.trans (hB.mono BB.out.size))
        clear hB
        go_wp2_with fail
        go_ret
        exact ⟨rfl, BB.out⟩
      · have z2 : ((em : Int) != 0) = true := by rw [bne_iff_ne]; omega
        go_wp2_with fail
        go_ret
        exact ⟨rfl, BB.out⟩
  · have q1 : ((n : Int) == (c : Int)) = false := by rw [beq_eq_false_iff_ne]; omega
    clear q
    go_wp2_with fail
    refine (mmul_all _ _ A B _ HA.out HB.out em EM.out).mono ?_
    rintro e w_6 ⟨vp, rfl, hP, hB⟩
    have HA := hid_of ((HA.out.below hB).mono hB.size)
    have HB := hid_of ((HB.out.below hB).mono hB.size)
    have HT := hid_of ((HT.out.below hB).mono hB.size)
    have BB := hid_of (BB.out.trans (hB.mono BB.out.size))
    have HP := hid_of hP
    clear hB hP
    by_cases d : em = 0
    · subst d
      obtain ⟨p1, p2, p3, p4⟩ := HMR.out EM.out
      rw [HR.out] at p3
      obtain ⟨rp, hrp⟩ : ∃ n, rk (mmp A B) = n := ⟨_, rfl⟩
      obtain ⟨rb, hrb⟩ : ∃ n, rk B = n := ⟨_, rfl⟩
      rw [hrp] at p3 p4
      rw [hrb] at p4
      have P1 := hid_of p1
      have P2 := hid_of p2
      have HRP := hid_of hrp
      have HRB := hid_of hrb
      have x1 : decide ((rp : Int) ≤ (r : Int)) = true := decide_eq_true (by omega)
      have x2 : decide (rp ≤ r) = true := decide_eq_true p3
      have x3 : decide ((rp : Int) ≤ (rb : Int)) = true := decide_eq_true (by omega)
      have x4 : decide (rp ≤ rb) = true := decide_eq_true p4
      clear p1 p2 hrp hrb
      go_wp2_with fail
      refine (rank_go _ _ _ HP.out P2.out rp HRP.out).mono ?_
      rintro e w_7 ⟨rfl, hB⟩
      have HA := hid_of ((HA.out.below hB).mono hB.size)
      have HB := hid_of ((HB.out.below hB).mono hB.size)
      have HT := hid_of ((HT.out.below hB).mono hB.size)
      have HP := hid_of ((HP.out.below hB).mono hB.size)
      have BB := hid_of (BB.out.trans (hB.mono BB.out.size))
      clear hB
      go_wp2_with fail
      refine (rank_go _ B _ HB.out P1.out rb HRB.out).mono ?_
      rintro e w_8 ⟨rfl, hB⟩
      have HA := hid_of ((HA.out.below hB).mono hB.size)
      have HB := hid_of ((HB.out.below hB).mono hB.size)
      have HT := hid_of ((HT.out.below hB).mono hB.size)
      have HP := hid_of ((HP.out.below hB).mono hB.size)
      have BB := hid_of (BB.out.trans (hB.mono BB.out.size))
      clear hB
      go_wp2_with fail
      go_ret
      exact ⟨rfl, BB.out⟩
    · have z2 : ((em : Int) != 0) = true := by rw [bne_iff_ne]; omega
      go_wp2_with fail
      go_ret
      exact ⟨rfl, BB.out⟩
theorem walk (v0 : Value) (A : List (List Nat)) (v1 : Value) (B : List (List Nat)) (w : World) (h0 : Mx w.heap.size w v0 A) (h1 : Mx w.heap.size w v1 B) :
    Calls Try.prog 7 #[v0, v1] w fun e w' => e = .returned (.bool true) ∧ Below w.heap.size w w' := by
  by_cases h : chk A = 0
  · exact walk_ok v0 A v1 B w h0 h1 h
  · exact walk_err v0 A v1 w h0 h

set_option maxRecDepth 100000 in
theorem lifted (os : Os) (started : os.Started) (H : Type) (enc : TypeId × Value → H) :
    ReturnsInHanded {} Try.checked os 7 .any (Rows.matrixRankSpec.pre6 enc Try.prog Try.f7 Rows.matrixRankRow.domain false) (Rows.matrixRankSpec.post enc Try.prog Try.f7 false true false false) := by
  refine returnsInHanded_of_change_sized (C := Try.checked) own started (by kernel_rfl) Try.func7
    (ChangeSpec.witness6 (enc := enc) (C := Try.checked) false ⟨#[], #[.slice none 0 0, .slice none 0 0], []⟩ 8 (by kernel_rfl) (by kernel_rfl) (by kernel_rfl) (by kernel_rfl)) ?_
  intro W base args ds gs before hval0 hW hcnd hsz0 _
  have hsz : (DataW.weightsEach Try.prog (Try.f7.params.toList ++ Rows.matrixRankSpec.plain.varTypes Try.prog) (ds ++ gs)).all (· ≤ reachBytes) = true := hsz0
  clear hsz0
  have hval : ∀ (j : Nat) t v, Try.f7.params[j]? = some t → args[j]? = some v → Value.okWide Try.prog W .any base t v := hval0
  have hW' := hW
  obtain ⟨p, q, hA0, hV, rfl, hfz, hnd⟩ := hW
  have hA : DataW.TrodAll enc Try.prog W 0 (fun _ => true) true Try.f7.params.toList args.toList ds p := hA0
  rw [Try.params7] at hA hval hsz
  obtain ⟨v0, vs0, d0, ds0, p0, q0, hargs, rfl, rfl, h0, r0⟩ := trodAll_cons hA
  obtain ⟨v1, vs1, d1, ds1, p1, q1, rfl, rfl, rfl, h1, r1⟩ := trodAll_cons r0
  obtain ⟨rfl, rfl, rfl⟩ := trodAll_nil r1
  obtain rfl : args = #[v0, v1] := by cases args; simp_all
  obtain ⟨rfl, rfl⟩ := trodVars_none hV
  obtain ⟨a0, len0, cap0, rfl⟩ := okWide_slice Try.underlying22 (hval 0 22 v0 rfl rfl)
  have k0 := h0
  have lt0 : ∀ x ∈ p0, x.block < W.heap.size := by obtain ⟨m, hm⟩ := k0; exact DataW.trod_lt m _ _ _ hm
  obtain ⟨A0, w0⟩ : ∃ A, Mx W.heap.size W (.slice a0 len0 cap0) A := by
    obtain ⟨fuel, hf⟩ := h0
    exact arg_mx hf hsz (j := 0) rfl rfl
  obtain ⟨a1, len1, cap1, rfl⟩ := okWide_slice Try.underlying22 (hval 1 22 v1 rfl rfl)
  have k1 := h1
  have lt1 : ∀ x ∈ p1, x.block < W.heap.size := by obtain ⟨m, hm⟩ := k1; exact DataW.trod_lt m _ _ _ hm
  obtain ⟨A1, w1⟩ : ∃ A, Mx W.heap.size W (.slice a1 len1 cap1) A := by
    obtain ⟨fuel, hf⟩ := h1
    exact arg_mx hf hsz (j := 1) rfl rfl
  clear hA0 hval0
  refine (walk _ A0 _ A1 W w0 w1).mono fun e W' ⟨he, bel⟩ => ?_
  subst he
  exact ⟨_, rfl, _, _, _, [], _, [], hW', trodAll_mk1 (shut_bool Try.underlying4 _), (trodAll_cons_mk (Below.trod laidOut (by kernel_rfl) (of_decide_eq_true (by kernel_rfl)) k0 bel lt0) (trodAll_cons_mk (Below.trod laidOut (by kernel_rfl) (of_decide_eq_true (by kernel_rfl)) k1 bel lt1) trodAll_mk0)), rfl, bel.frame _, fun h => by cases h⟩

theorem over : Rows.matrixRankRow.holds Try.pinned (OpenSpec.ofChange Rows.matrixRankSpec) :=
  OpenClaim.holds_of_wide 7 Try.f7 rfl rfl rfl rfl rfl rfl rfl ⟨rfl, rfl, rfl, rfl, rfl⟩ rfl rfl rfl rfl rfl (by kernel_rfl) Try.func7 (by kernel_rfl)
    (of_decide_eq_true (by kernel_rfl)) (by unfold Func.isWrapper; first | (rw [if_pos (by decide +kernel)]; kernel_rfl) | (rw [if_neg (by decide +kernel)]; exact ⟨rfl, rfl⟩))
    (fun os started H enc _ => lifted os started H enc)

/-- ████ THE STATEMENT ████ -/
theorem proved : Rows.MatrixRankSaid := over
#print axioms proved
end Go.Proofs.Ytjpibfnkchbglaa.matrixRank
