/- For every two numbers and every two lists of numbers CauchyWhole answers true, and nothing that was handed in is changed. -/
import Derived.Test.YtjpibfnkchbglabRows
import Derived.Test.YtjpibfnkchbglabBegun
import Derived.Test.YtjpibfnkchbglabCWhole
import Derived.Test.YtjpibfnkchbglabArg
import Derived.WalkKit
import Derived.ProofKit
import Derived.OpenShut
import Derived.ShutString
import Derived.ChangeOld
import Derived.Below
import Derived.SizedLaws
namespace Go.Proofs.Ytjpibfnkchbglab.cauchyWhole
open Go.ChangeShapes Go.WideShapes Go.ChangeAt Go.RowKit
open Go.ChangeMaps (open_string shut_string)
set_option linter.unusedVariables false

theorem own : ownKnob Try.prog.godebug = none := by kernel_rfl
theorem laidOut : laidOutB Try.prog = true := by kernel_rfl

set_option maxRecDepth 100000 in
set_option maxHeartbeats 16000000 in
theorem walk_err (r c : Int) (v2 : Value) (v3 : Value) (w : World) (h : (r < 1 ∨ 16 < r) ∨ (c < 1 ∨ 16 < c)) :
    Calls Try.prog 3 #[.int .i64 r, .int .i64 c, v2, v3] w fun e w' => e = .returned (.bool true) ∧ Below w.heap.size w w' := by
  have HC := hid_of (cauchy_no r c w h)
  have BB := hid_of (Below.refl w.heap.size w)
  clear h
  go_enter Try.func3, Try.ntmps3
  go_wp2_with fail
  refine HC.out.mono ?_
  rintro e w_1 ⟨rfl, hB⟩
  have BB := hid_of (BB.out.trans (hB.mono BB.out.size))
  clear hB
  go_wp2_with fail
  refine (begun_any _).mono ?_
  rintro e w_2 ⟨rfl, hB⟩
  have BB := hid_of (BB.out.trans (hB.mono BB.out.size))
  clear hB
  go_wp2_with fail
  go_ret
  exact ⟨rfl, BB.out⟩
/-- the first i places are different, and of row i those below k -/
def Df (L T : List Int) (i k : Nat) : Prop := ∀ a b, (a < i ∨ (a = i ∧ b < k)) → a < L.length → b < a → L[a]?.getD 0 ≠ L[b]?.getD 0 ∧ (a < T.length → T[a]?.getD 0 ≠ T[b]?.getD 0)
set_option maxRecDepth 100000 in
set_option maxHeartbeats 16000000 in
theorem walk_ok (r c : Nat) (v2 : Value) (I : List Int) (v3 : Value) (T : List Int) (w : World) (h1 : 1 ≤ r) (h2 : r ≤ 16) (h3 : 1 ≤ c) (h4 : c ≤ 16) (hI : Is w.heap.size w v2 I) (hT : Is w.heap.size w v3 T) :
    Calls Try.prog 3 #[.int .i64 (r : Nat), .int .i64 (c : Nat), v2, v3] w fun e w' => e = .returned (.bool true) ∧ Below w.heap.size w w' := by
  have HI := hid_of hI
  have HT := hid_of hT
  have HWh := hid_of (fun e1 hl e2 dL dT => whole h1 h2 h3 h4 (L := I) (T := T) e1 hl e2 dL dT)
  have rC := hid_of (tab_rect (cf r) h1 h2 h3 h4)
  have hil := hI.1
  have htl := hT.1
  obtain ⟨a2, c2, rfl⟩ := hI.shape
  obtain ⟨a3, c3, rfl⟩ := hT.shape
  have BB := hid_of (Below.refl w.heap.size w)
  clear hI hT
  go_enter Try.func3, Try.ntmps3
  go_wp2_with fail
  refine (cauchy_ok r c _ h1 h2 h3 h4).mono ?_
  rintro e w_1 ⟨vc, rfl, hC, hB⟩
  have HI := hid_of ((HI.out.below hB).mono hB.size)
  have HT := hid_of ((HT.out.below hB).mono hB.size)
  have BB := hid_of (BB.out.trans (hB.mono BB.out.size))
  have HC := hid_of hC
  clear hB hC
  go_wp2_with fail
  refine (begun_any _).mono ?_
  rintro e w_2 ⟨rfl, hB⟩
  have HI := hid_of ((HI.out.below hB).mono hB.size)
  have HT := hid_of ((HT.out.below hB).mono hB.size)
  have HC := hid_of ((HC.out.below hB).mono hB.size)
  have BB := hid_of (BB.out.trans (hB.mono BB.out.size))
  clear hB
  go_wp2_with fail
  go_loopw [11, 12] (fun i k w' => ∃ n : Nat, n ≤ I.length ∧ i = .int .i64 n ∧ Hid (Df I T n 0) ∧ Hid (Below w_2.heap.size w_2 w')) (fun i _ _ => I.length - (intOf i).toNat)
  case atStart => exact ⟨0, by omega, rfl, (fun a b h => by omega), Below.refl _ _⟩
  case round =>
    obtain ⟨n, hn, rfl, HD, HR⟩ := hrel
    by_cases hlt : n < I.length
    · have t1 : decide ((n : Int) < (I.length : Int)) = true := decide_eq_true (by omega)
      go_wp2_with fail
      go_loopw [12] (fun k w' => ∃ m : Nat, m ≤ n ∧ k = .int .i64 m ∧ Hid (Df I T n m) ∧ Hid (Below w_2.heap.size w_2 w')) (fun k _ => n - (intOf k).toNat)
      case atStart => exact ⟨0, by omega, rfl, HD, HR⟩
      case round =>
        obtain ⟨m, hm, rfl, HD, HR⟩ := hrel
        by_cases hml : m < n
        · have t2 : decide ((m : Int) < (n : Int)) = true := decide_eq_true (by omega)
          obtain ⟨b1, o1, e1, hx⟩ := (HI.out.below HR.out).at (j := n) hlt
          obtain ⟨b1', o1', e1', hy⟩ := (HI.out.below HR.out).at (j := m) (by omega)
          subst e1
          cases e1'
          have q1 : (n : Int) < (I.length : Int) := by omega
          have q2 : (m : Int) < (I.length : Int) := by omega
          obtain ⟨x, hxe⟩ : ∃ x, I[n]?.getD 0 = x := ⟨_, rfl⟩
          obtain ⟨y, hye⟩ : ∃ x, I[m]?.getD 0 = x := ⟨_, rfl⟩
          rw [hxe] at hx
          rw [hye] at hy
          by_cases d : x = y
          · have g1 : (x == y) = true := by rw [d]; simp
            clear d
            go_wp2_with fail
            go_quiet (fail)
            go_wp2_with fail
            go_ret
            exact ⟨rfl, BB.out.trans ((below_drewN _ HR.out).mono BB.out.size)⟩
          · have g1 : (x == y) = false := by rw [beq_eq_false_iff_ne]; exact d
            by_cases hnt : n < T.length
            · have g2 : decide ((n : Int) < (T.length : Int)) = true := decide_eq_true (by omega)
              obtain ⟨b2, o2, e2, hz⟩ := (HT.out.below HR.out).at (j := n) hnt
              obtain ⟨b2', o2', e2', hq⟩ := (HT.out.below HR.out).at (j := m) (by omega)
              subst e2
              cases e2'
              have q3 : (n : Int) < (T.length : Int) := by omega
              have q4 : (m : Int) < (T.length : Int) := by omega
              obtain ⟨p, hpe⟩ : ∃ x, T[n]?.getD 0 = x := ⟨_, rfl⟩
              obtain ⟨q, hqe⟩ : ∃ x, T[m]?.getD 0 = x := ⟨_, rfl⟩
              rw [hpe] at hz
              rw [hqe] at hq
              by_cases d2 : p = q
              · have g3 : (p == q) = true := by rw [d2]; simp
                clear d2 hxe hye hpe hqe
                go_wp2_with fail
                go_quiet (fail)
                go_wp2_with fail
                go_ret
                exact ⟨rfl, BB.out.trans ((below_drewN _ HR.out).mono BB.out.size)⟩
              · have g3 : (p == q) = false := by rw [beq_eq_false_iff_ne]; exact d2
                have HD2 : Hid (Df I T n (m + 1)) := hid_of (fun a b h ha hb => by
                  by_cases c : a = n ∧ b = m
                  · obtain ⟨rfl, rfl⟩ := c
                    rw [hxe, hye, hpe, hqe]
                    exact ⟨d, fun _ => d2⟩
                  · exact HD.out a b (by omega) ha hb)
                clear d2 d hxe hye hpe hqe
                go_wp2_with fail
                go_quiet (fail)
                go_wp2_with fail
                go_roundw
                case rel => exact ⟨m + 1, by omega, by go_num, HD2, below_drewN _ HR.out⟩
                case measure => simp [intOf]; omega
            · have g2 : decide ((n : Int) < (T.length : Int)) = false := decide_eq_false (by omega)
              have HD2 : Hid (Df I T n (m + 1)) := hid_of (fun a b h ha hb => by
                by_cases c : a = n ∧ b = m
                · obtain ⟨rfl, rfl⟩ := c
                  rw [hxe, hye]
                  exact ⟨d, fun hh => absurd hh hnt⟩
                · exact HD.out a b (by omega) ha hb)
              clear d hxe hye
              go_wp2_with fail
              go_quiet (fail)
              go_wp2_with fail
              go_roundw
              case rel => exact ⟨m + 1, by omega, by go_num, HD2, below_drewN _ HR.out⟩
              case measure => simp [intOf]; omega
        · have t2 : decide ((m : Int) < (n : Int)) = false := decide_eq_false (by omega)
          have HD2 : Hid (Df I T (n + 1) 0) := hid_of (fun a b h ha hb => HD.out a b (by omega) ha hb)
          go_wp2_with fail
          go_roundw
          case rel => exact ⟨n + 1, by omega, by go_num, HD2, HR⟩
          case measure => simp [intOf]; omega
    · have t1 : decide ((n : Int) < (I.length : Int)) = false := decide_eq_false (by omega)
      have HDL : Hid (∀ a b, a < I.length → b < a → I[a]?.getD 0 ≠ I[b]?.getD 0) := hid_of fun a b ha hb => (HD.out a b (by omega) ha hb).1
      have HDT : Hid (T.length = I.length → ∀ a b, a < I.length → b < a → T[a]?.getD 0 ≠ T[b]?.getD 0) := hid_of fun hl a b ha hb => (HD.out a b (by omega) ha hb).2 (by omega)
      have HI := hid_of ((HI.out.below HR.out).mono HR.out.size)
      have HT := hid_of ((HT.out.below HR.out).mono HR.out.size)
      have HC := hid_of ((HC.out.below HR.out).mono HR.out.size)
      have BB := hid_of (BB.out.trans (HR.out.mono BB.out.size))
      obtain ⟨e1, he1⟩ : ∃ n, rre (tab r c (cf r)) I = n := ⟨_, rfl⟩
      have E1 := hid_of he1
      clear he1 HD HR hn
      go_wp2_with fail
      refine (rows_all _ _ (tab r c (cf r)) I _ HC.out HI.out e1 E1.out).mono ?_
      rintro e w_3 ⟨vx, rfl, hX, hB⟩
      have HI := hid_of ((HI.out.below hB).mono hB.size)
      have HT := hid_of ((HT.out.below hB).mono hB.size)
      have HC := hid_of ((HC.out.below hB).mono hB.size)
      have BB := hid_of (BB.out.trans (hB.mono BB.out.size))
      have HX := hid_of hX
      clear hB hX
      by_cases c1 : e1 = 0
      · subst c1
        obtain ⟨l1, l16, _, x4⟩ := rre_zero rC.out E1.out
        rw [x4] at HX
        have RX := hid_of (tab_rect (rwf (tab r c (cf r)) I) l1 l16 h3 h4)
        clear x4
        by_cases c2 : I.length = T.length
        · have g : ((I.length : Int) != (T.length : Int)) = false := by rw [c2]; simp
          have HLen := hid_of c2.symm
          clear c2
          obtain ⟨e2, he2⟩ : ∃ n, rre (tab c I.length (tf (tab I.length c (rwf (tab r c (cf r)) I)))) T = n := ⟨_, rfl⟩
          have E2 := hid_of he2
          clear he2
          go_wp2_with fail
          refine (turn_ok _ _ _ _ _ HX.out RX.out).mono ?_
          rintro e w_4 ⟨vt, rfl, hTu, hB⟩
          have HI := hid_of ((HI.out.below hB).mono hB.size)
          have HT := hid_of ((HT.out.below hB).mono hB.size)
          have HC := hid_of ((HC.out.below hB).mono hB.size)
          have HX := hid_of ((HX.out.below hB).mono hB.size)
          have BB := hid_of (BB.out.trans (hB.mono BB.out.size))
          have HU := hid_of hTu
          clear hB hTu
          go_wp2_with fail
          refine (rows_all _ _ _ T _ HU.out HT.out e2 E2.out).mono ?_
          rintro e w_5 ⟨vy, rfl, hY, hB⟩
          have HI := hid_of ((HI.out.below hB).mono hB.size)
          have HT := hid_of ((HT.out.below hB).mono hB.size)
          have HC := hid_of ((HC.out.below hB).mono hB.size)
          have HX := hid_of ((HX.out.below hB).mono hB.size)
          have HU := hid_of ((HU.out.below hB).mono hB.size)
          have BB := hid_of (BB.out.trans (hB.mono BB.out.size))
          have HY := hid_of hY
          clear hB hY
          by_cases c3 : e2 = 0
          · subst c3
            have HF := hid_of (HWh.out E1.out HLen.out E2.out HDL.out (HDT.out HLen.out))
            go_wp2_with fail
            refine (inverse_all _ _ _ HY.out 0 HF.out).mono ?_
            rintro e w_6 ⟨vi, rfl, hI2, hB⟩
            clear hI2
            have HI := hid_of ((HI.out.below hB).mono hB.size)
            have HT := hid_of ((HT.out.below hB).mono hB.size)
            have HC := hid_of ((HC.out.below hB).mono hB.size)
            have HX := hid_of ((HX.out.below hB).mono hB.size)
            have HU := hid_of ((HU.out.below hB).mono hB.size)
            have HY := hid_of ((HY.out.below hB).mono hB.size)
            have BB := hid_of (BB.out.trans (hB.mono BB.out.size))
            clear hB
            go_wp2_with fail
            go_ret
            exact ⟨rfl, BB.out⟩
          · have g9 : ((e2 : Int) != 0) = true := by rw [bne_iff_ne]; omega
            go_wp2_with fail
            go_ret
            exact ⟨rfl, BB.out⟩
        · have g : ((I.length : Int) != (T.length : Int)) = true := by rw [bne_iff_ne]; omega
          go_wp2_with fail
          go_ret
          exact ⟨rfl, BB.out⟩
      · have g8 : ((e1 : Int) != 0) = true := by rw [bne_iff_ne]; omega
        go_wp2_with fail
        go_ret
        exact ⟨rfl, BB.out⟩
theorem walk (r c : Int) (v2 : Value) (I : List Int) (v3 : Value) (T : List Int) (w : World) (_w0 : (Lit.int .i64 r).wf = true) (_w1 : (Lit.int .i64 c).wf = true) (hI : Is w.heap.size w v2 I) (hT : Is w.heap.size w v3 T) :
    Calls Try.prog 3 #[.int .i64 r, .int .i64 c, v2, v3] w fun e w' => e = .returned (.bool true) ∧ Below w.heap.size w w' := by
  by_cases h : (r < 1 ∨ 16 < r) ∨ (c < 1 ∨ 16 < c)
  · exact walk_err r c v2 v3 w h
  · obtain ⟨n, rfl⟩ := Int.eq_ofNat_of_zero_le (show 0 ≤ r by omega)
    obtain ⟨m, rfl⟩ := Int.eq_ofNat_of_zero_le (show 0 ≤ c by omega)
    exact walk_ok n m v2 I v3 T w (by omega) (by omega) (by omega) (by omega) hI hT

set_option maxRecDepth 100000 in
theorem lifted (os : Os) (started : os.Started) (H : Type) (enc : TypeId × Value → H) :
    ReturnsInHanded {} Try.checked os 3 .any (Rows.cauchyWholeSpec.pre6 enc Try.prog Try.f3 Rows.cauchyWholeRow.domain false) (Rows.cauchyWholeSpec.post enc Try.prog Try.f3 false true false false) := by
  refine returnsInHanded_of_change_sized (C := Try.checked) own started (by kernel_rfl) Try.func3
    (ChangeSpec.witness6 (enc := enc) (C := Try.checked) false ⟨#[], #[.int .i64 0, .int .i64 0, .slice none 0 0, .slice none 0 0], []⟩ 8 (by kernel_rfl) (by kernel_rfl) (by kernel_rfl) (by kernel_rfl)) ?_
  intro W base args ds gs before hval0 hW hcnd hsz0 _
  have hsz : (DataW.weightsEach Try.prog (Try.f3.params.toList ++ Rows.cauchyWholeSpec.plain.varTypes Try.prog) (ds ++ gs)).all (· ≤ reachBytes) = true := hsz0
  clear hsz0
  have hval : ∀ (j : Nat) t v, Try.f3.params[j]? = some t → args[j]? = some v → Value.okWide Try.prog W .any base t v := hval0
  have hW' := hW
  obtain ⟨p, q, hA0, hV, rfl, hfz, hnd⟩ := hW
  have hA : DataW.TrodAll enc Try.prog W 0 (fun _ => true) true Try.f3.params.toList args.toList ds p := hA0
  rw [Try.params3] at hA hval hsz
  obtain ⟨v0, vs0, d0, ds0, p0, q0, hargs, rfl, rfl, h0, r0⟩ := trodAll_cons hA
  obtain ⟨v1, vs1, d1, ds1, p1, q1, rfl, rfl, rfl, h1, r1⟩ := trodAll_cons r0
  obtain ⟨v2, vs2, d2, ds2, p2, q2, rfl, rfl, rfl, h2, r2⟩ := trodAll_cons r1
  obtain ⟨v3, vs3, d3, ds3, p3, q3, rfl, rfl, rfl, h3, r3⟩ := trodAll_cons r2
  obtain ⟨rfl, rfl, rfl⟩ := trodAll_nil r3
  obtain rfl : args = #[v0, v1, v2, v3] := by cases args; simp_all
  obtain ⟨rfl, rfl⟩ := trodVars_none hV
  obtain ⟨x0, rfl, rfl, rfl, w0⟩ := open_int Try.underlying3 (hval 0 3 v0 rfl rfl) h0
  obtain ⟨x1, rfl, rfl, rfl, w1⟩ := open_int Try.underlying3 (hval 1 3 v1 rfl rfl) h1
  obtain ⟨a2, len2, cap2, rfl⟩ := okWide_slice Try.underlying22 (hval 2 22 v2 rfl rfl)
  have k2 := h2
  have lt2 : ∀ x ∈ p2, x.block < W.heap.size := by obtain ⟨m, hm⟩ := k2; exact DataW.trod_lt m _ _ _ hm
  obtain ⟨A2, w2⟩ : ∃ A, Is W.heap.size W (.slice a2 len2 cap2) A := by
    obtain ⟨fuel, hf⟩ := h2
    exact arg_is hf hsz (j := 2) rfl rfl
  obtain ⟨a3, len3, cap3, rfl⟩ := okWide_slice Try.underlying22 (hval 3 22 v3 rfl rfl)
  have k3 := h3
  have lt3 : ∀ x ∈ p3, x.block < W.heap.size := by obtain ⟨m, hm⟩ := k3; exact DataW.trod_lt m _ _ _ hm
  obtain ⟨A3, w3⟩ : ∃ A, Is W.heap.size W (.slice a3 len3 cap3) A := by
    obtain ⟨fuel, hf⟩ := h3
    exact arg_is hf hsz (j := 3) rfl rfl
  clear hA0 hval0
  refine (walk x0 x1 _ A2 _ A3 W w0 w1 w2 w3).mono fun e W' ⟨he, bel⟩ => ?_
  subst he
  exact ⟨_, rfl, _, _, _, [], _, [], hW', trodAll_mk1 (shut_bool Try.underlying4 _), (trodAll_cons_mk (shut_int Try.underlying3 w0) (trodAll_cons_mk (shut_int Try.underlying3 w1) (trodAll_cons_mk (Below.trod laidOut (by kernel_rfl) (of_decide_eq_true (by kernel_rfl)) k2 bel lt2) (trodAll_cons_mk (Below.trod laidOut (by kernel_rfl) (of_decide_eq_true (by kernel_rfl)) k3 bel lt3) trodAll_mk0)))), rfl, bel.frame _, fun h => by cases h⟩

theorem over : Rows.cauchyWholeRow.holds Try.pinned (OpenSpec.ofChange Rows.cauchyWholeSpec) :=
  OpenClaim.holds_of_wide 3 Try.f3 rfl rfl rfl rfl rfl rfl rfl ⟨rfl, rfl, rfl, rfl, rfl⟩ rfl rfl rfl rfl rfl (by kernel_rfl) Try.func3 (by kernel_rfl)
    (of_decide_eq_true (by kernel_rfl)) (by unfold Func.isWrapper; first | (rw [if_pos (by decide +kernel)]; kernel_rfl) | (rw [if_neg (by decide +kernel)]; exact ⟨rfl, rfl⟩))
    (fun os started H enc _ => lifted os started H enc)

/-- ████ THE STATEMENT ████ -/
theorem proved : Rows.CauchyWholeSaid := over
#print axioms proved
end Go.Proofs.Ytjpibfnkchbglab.cauchyWhole
