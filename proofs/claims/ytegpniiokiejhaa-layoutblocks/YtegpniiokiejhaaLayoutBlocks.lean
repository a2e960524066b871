/- For every layout and two numbers of blocks the statement LayoutBlocks answers true: no two blocks are one piece, and blocks side by side are in one stripe, or in the next one; with no condition. -/
import Derived.Test.YtegpniiokiejhaaRows
import Derived.Test.YtegpniiokiejhaaLyB
import Derived.Test.YtegpniiokiejhaaLa
import Derived.WalkKit
import Derived.ProofKit
import Derived.OpenShut
import Derived.ShutString
import Derived.ChangeOld
import Derived.Below
import Derived.SizedLaws
namespace Go.Proofs.Ytegpniiokiejhaa.layoutBlocks
open Go.ChangeShapes Go.WideShapes Go.ChangeAt Go.RowKit
open Go.ChangeMaps (open_string shut_string)
set_option linter.unusedVariables false

theorem own : ownKnob Try.prog.godebug = none := by kernel_rfl
theorem laidOut : laidOutB Try.prog = true := by kernel_rfl

theorem ret_true {b : Bool} (h : b = true) : Ending.returned (.bool b) = .returned (.bool true) := by rw [h]
/-- the program's numbers of two blocks -/
structure Bk (D a b s p t q : Int) : Prop where
  d1 : 1 ≤ D
  d2 : D ≤ 8
  ha : s * D + p = a
  hb : t * D + q = b
  p1 : 0 ≤ p
  p2 : p < D
  q1 : 0 ≤ q
  q2 : q < D
  s1 : 0 ≤ s
  s2 : s < 64
  t1 : 0 ≤ t
  t2 : t < 64
theorem bk_both {N D M T a b : Int} (h1 : bkE N D M T a = 0) (h2 : bkE N D M T b = 0) : Bk D a b (bkS N D M T a) (bkP N D M T a) (bkS N D M T b) (bkP N D M T b) := by
  obtain ⟨hL, a1, a2⟩ := bk_zero h1
  obtain ⟨_, b1, b2⟩ := bk_zero h2
  unfold bkS bkP
  rw [if_pos h1, if_pos h1, if_pos h2, if_pos h2]
  have d1 := hL.d1
  have e1 := Int.mul_ediv_add_emod a D
  have e2 := Int.mul_ediv_add_emod b D
  refine ⟨hL.d1, hL.d2, by rw [Int.mul_comm]; exact e1, by rw [Int.mul_comm]; exact e2, Int.emod_nonneg _ (by omega), Int.emod_lt_of_pos _ (by omega), Int.emod_nonneg _ (by omega), Int.emod_lt_of_pos _ (by omega), Int.ediv_nonneg a1 (by omega), ?_, Int.ediv_nonneg b1 (by omega), ?_⟩
  · exact Int.ediv_lt_of_lt_mul (by omega) (by omega)
  · exact Int.ediv_lt_of_lt_mul (by omega) (by omega)
theorem bk_one {D a b s p t q : Int} (h : Bk D a b s p t q) : (s = t ∧ p = q) ↔ a = b := by
  obtain ⟨d1, d2, ha, hb, p1, p2, q1, q2, s1, s2, t1, t2⟩ := h
  constructor
  · rintro ⟨rfl, rfl⟩; omega
  · intro e
    subst e
    have h1 : (s - t) * D = q - p := by rw [Int.sub_mul]; omega
    have h2 : s = t := by
      rcases Int.lt_trichotomy s t with c | c | c
      · have : (t - s) * D ≥ 1 * D := Int.mul_le_mul_of_nonneg_right (by omega) (by omega)
        have e : (t - s) * D = p - q := by rw [Int.sub_mul]; omega
        omega
      · exact c
      · have : (s - t) * D ≥ 1 * D := Int.mul_le_mul_of_nonneg_right (by omega) (by omega)
        omega
    subst h2
    exact ⟨rfl, by omega⟩
theorem bk_next {D a b s p t q : Int} (h : Bk D a b s p t q) (e : b = a + 1) : (t = s ∧ q = p + 1) ∨ (t = s + 1 ∧ q = 0 ∧ p = D - 1) := by
  by_cases c : p = D - 1
  · right
    have h' : Bk D (a + 1) b (s + 1) 0 t q := ⟨h.d1, h.d2, by have := h.ha; rw [Int.add_mul]; omega, h.hb, by omega, by have := h.d1; omega, h.q1, h.q2, by have := h.s1; omega, by
      have h1 := h.hb
      have h2 := h.ha
      have h3 := h.q2
      have h4 := h.d1
      have h5 : (s + 1) * D = t * D + q := by rw [Int.add_mul]; omega
      rcases Int.lt_or_le s 63 with c | c
      · omega
      · have : (s + 1) * D ≥ 64 * D := Int.mul_le_mul_of_nonneg_right (by omega) (by omega)
        have : t * D ≤ 63 * D := Int.mul_le_mul_of_nonneg_right (by have := h.t2; omega) (by omega)
        omega, h.t1, h.t2⟩
    have := (bk_one h').2 e.symm
    exact ⟨this.1.symm, this.2.symm, c⟩
  · left
    have h' : Bk D (a + 1) b s (p + 1) t q := ⟨h.d1, h.d2, by have := h.ha; omega, h.hb, by have := h.p1; omega, by have := h.p2; omega, h.q1, h.q2, h.s1, h.s2, h.t1, h.t2⟩
    have := (bk_one h').2 e.symm
    exact ⟨this.1.symm, this.2.symm⟩
set_option maxRecDepth 100000 in
set_option maxHeartbeats 2000000 in
theorem walk (N D M T a b : Int) (w : World) (yN : (Lit.int .i64 N).wf = true) (yD : (Lit.int .i64 D).wf = true) (yM : (Lit.int .i64 M).wf = true) (yT : (Lit.int .i64 T).wf = true) (ws : (Lit.int .i64 a).wf = true) (wp : (Lit.int .i64 b).wf = true) :
    Calls Try.prog 6 #[lay N D M T, .int .i64 a, .int .i64 b] w fun e w' => e = .returned (.bool true) ∧ Below w.heap.size w w' := by
  have b0 := below_new w (.cells #[.int .i64 N, .int .i64 D, .int .i64 M, .int .i64 T] 23)
  have X0 := hid_of (show Bx _ _ _ _ _ _ from heap_new w (.cells #[.int .i64 N, .int .i64 D, .int .i64 M, .int .i64 T] 23))
  have B0 := hid_of b0
  have HS := hid_of (@bk_both N D M T a b)
  clear b0 yN yD yM yT ws wp
  have HN : Hid (lay N D M T = .agg #[.int .i64 N, .int .i64 D, .int .i64 M, .int .i64 T]) := rfl
  rw [HN.out]
  go_enter Try.func6, Try.ntmps6
  go_wp2_with fail
  generalize w.alloc (.cells #[.int .i64 N, .int .i64 D, .int .i64 M, .int .i64 T] 23) = W at *
  refine (block_any N D M T a _).mono ?_
  rintro e w1 ⟨rfl, h1⟩
  have B1 := hid_of (B0.out.trans (h1.mono B0.out.size))
  have X1 := hid_of (X0.out.below h1)
  obtain ⟨k0, k1, k2, k3⟩ := X1.out.cells
  clear h1 B0 X0
  generalize bkS N D M T a = s at HS ⊢
  generalize bkP N D M T a = p at HS ⊢
  generalize bkE N D M T a = e1 at HS ⊢
  go_wp2_with fail
  refine (block_any N D M T b _).mono ?_
  rintro e w2 ⟨rfl, h2⟩
  have B2 := hid_of (B1.out.trans (h2.mono B1.out.size))
  have X2 := hid_of (X1.out.below h2)
  clear k0 k1 k2 k3 h2 B1 X1
  generalize bkS N D M T b = t at HS ⊢
  generalize bkP N D M T b = q at HS ⊢
  generalize bkE N D M T b = e2 at HS ⊢
  go_wp2_with fail
  refine (begun_any _).mono ?_
  rintro e w3 ⟨rfl, h3⟩
  have B3 := hid_of (B2.out.trans (h3.mono B2.out.size))
  obtain ⟨k0, k1, k2, k3⟩ := (X2.out.below h3).cells
  clear h3 B2 X2
  by_cases c1 : e1 = 0
  · by_cases c2 : e2 = 0
    · have hB := HS.out c1 c2
      have HB := hid_of hB
      have H1 := hid_of (bk_one hB)
      have H2 := hid_of (bk_next hB)
      obtain ⟨d1, d2, ha, hb, p1, p2, q1, q2, s1, s2, t1, t2⟩ := hB
      subst c1 c2
      clear HS
      have bB : 0 ≤ b ∧ b ≤ 600 := by
        have m1 : t * D ≤ 63 * 8 := Int.mul_le_mul (by omega) (by omega) (by omega) (by omega)
        have m0 : 0 ≤ t * D := Int.mul_nonneg (by omega) (by omega)
        omega
      obtain ⟨b1, b2⟩ := bB
      clear hb
      have m1 : s * D ≤ 63 * 8 := Int.mul_le_mul (by omega) (by omega) (by omega) (by omega)
      have m0 : 0 ≤ s * D := Int.mul_nonneg (by omega) (by omega)
      have g3 : (s * D + p != a) = false := by rw [ha]; simp
      have aB : 0 ≤ a ∧ a ≤ 600 := by omega
      obtain ⟨a1, a2⟩ := aB
      have f1 : ¬ p < 0 := by omega
      have f2 : ¬ p ≥ D := by omega
      have f2' : ¬ D ≤ p := by omega
      by_cases c3 : s = t
      · subst c3
        by_cases c4 : p = q
        · subst c4
          have hab := H1.out.1 ⟨rfl, rfl⟩
          subst hab
          clear H1 H2 ha
          have g9 : (a != a + 1) = true := by rw [bne_iff_ne]; omega
          go_wp2_with fail
          go_ret
          exact ⟨rfl, B3.out⟩
        · have hab : ¬ a = b := fun e => c4 (H1.out.2 e).2
          have g1 : (p == q) = false := by rw [beq_eq_false_iff_ne]; exact c4
          have g2 : (a == b) = false := by rw [beq_eq_false_iff_ne]; exact hab
          by_cases c5 : b = a + 1
          · have g4 : (b != a + 1) = false := by rw [c5]; simp
            have g5 : (q == p + 1) = true := by
              rcases H2.out c5 with h | h
              · rw [h.2]; simp
              · omega
            clear H1 H2 ha c4 hab c5
            go_wp2_with fail
            go_ret
            exact ⟨rfl, B3.out⟩
          · have g4 : (b != a + 1) = true := by rw [bne_iff_ne]; exact c5
            clear H1 H2 ha c4 hab c5
            go_wp2_with fail
            go_ret
            exact ⟨rfl, B3.out⟩
      · have hab : ¬ a = b := fun e => c3 (H1.out.2 e).1
        have g1 : (s == t) = false := by rw [beq_eq_false_iff_ne]; exact c3
        have g1' : (t == s) = false := by rw [beq_eq_false_iff_ne]; exact fun h => c3 h.symm
        have g2 : (a == b) = false := by rw [beq_eq_false_iff_ne]; exact hab
        by_cases c5 : b = a + 1
        · have g4 : (b != a + 1) = false := by rw [c5]; simp
          have hn : t = s + 1 ∧ q = 0 ∧ p = D - 1 := by
            rcases H2.out c5 with h | h
            · omega
            · exact h
          have g5 : (t == s + 1) = true := by rw [hn.1]; simp
          have g6 : (q == 0) = true := by rw [hn.2.1]; simp
          have g7 : (p == D - 1) = true := by rw [hn.2.2]; simp
          clear H1 H2 ha c3 hab c5 hn
          go_wp2_with fail
          go_ret
          exact ⟨rfl, B3.out⟩
        · have g4 : (b != a + 1) = true := by rw [bne_iff_ne]; exact c5
          clear H1 H2 ha c3 hab c5
          go_wp2_with fail
          go_ret
          exact ⟨rfl, B3.out⟩
    · have t2 : (e2 != 0) = true := by rw [bne_iff_ne]; exact c2
      subst c1
      go_wp2_with fail
      go_ret
      exact ⟨rfl, B3.out⟩
  · have t1 : (e1 != 0) = true := by rw [bne_iff_ne]; exact c1
    go_wp2_with fail
    go_ret
    exact ⟨rfl, B3.out⟩

set_option maxRecDepth 100000 in
theorem lifted (os : Os) (started : os.Started) (H : Type) (enc : TypeId × Value → H) :
    ReturnsInHanded {} Try.checked os 6 .any (Rows.layoutBlocksSpec.pre6 enc Try.prog Try.f6 Rows.layoutBlocksRow.domain false) (Rows.layoutBlocksSpec.post enc Try.prog Try.f6 false true false false) := by
  refine returnsInHanded_of_change_sized (C := Try.checked) own started (by kernel_rfl) Try.func6
    (ChangeSpec.witness6 (enc := enc) (C := Try.checked) false ⟨#[], #[.agg #[.int .i64 0, .int .i64 0, .int .i64 0, .int .i64 0], .int .i64 0, .int .i64 0], []⟩ 8 (by kernel_rfl) (by kernel_rfl) (by kernel_rfl) (by kernel_rfl)) ?_
  intro W base args ds gs before hval0 hW hcnd hsz0 _
  have hsz : (DataW.weightsEach Try.prog (Try.f6.params.toList ++ Rows.layoutBlocksSpec.plain.varTypes Try.prog) (ds ++ gs)).all (· ≤ reachBytes) = true := hsz0
  clear hsz0
  have hval : ∀ (j : Nat) t v, Try.f6.params[j]? = some t → args[j]? = some v → Value.okWide Try.prog W .any base t v := hval0
  have hW' := hW
  obtain ⟨p, q, hA0, hV, rfl, hfz, hnd⟩ := hW
  have hA : DataW.TrodAll enc Try.prog W 0 (fun _ => true) true Try.f6.params.toList args.toList ds p := hA0
  rw [Try.params6] at hA hval hsz
  obtain ⟨v0, vs0, d0, ds0, p0, q0, hargs, rfl, rfl, h0, r0⟩ := trodAll_cons hA
  obtain ⟨v1, vs1, d1, ds1, p1, q1, rfl, rfl, rfl, h1, r1⟩ := trodAll_cons r0
  obtain ⟨v2, vs2, d2, ds2, p2, q2, rfl, rfl, rfl, h2, r2⟩ := trodAll_cons r1
  obtain ⟨rfl, rfl, rfl⟩ := trodAll_nil r2
  obtain rfl : args = #[v0, v1, v2] := by cases args; simp_all
  obtain ⟨rfl, rfl⟩ := trodVars_none hV
  have k0 := h0
  have lt0 : ∀ x ∈ p0, x.block < W.heap.size := by obtain ⟨m, hm⟩ := k0; exact DataW.trod_lt m _ _ _ hm
  obtain ⟨N0, D0, M0, T0, rfl, y0a, y0b, y0c, y0d⟩ := open_lay (hval 0 23 v0 rfl rfl) h0
  obtain ⟨x1, rfl, rfl, rfl, w1⟩ := open_int Try.underlying3 (hval 1 3 v1 rfl rfl) h1
  obtain ⟨x2, rfl, rfl, rfl, w2⟩ := open_int Try.underlying3 (hval 2 3 v2 rfl rfl) h2
  clear hA0 hval0
  refine (walk N0 D0 M0 T0 x1 x2 W y0a y0b y0c y0d w1 w2).mono fun e W' ⟨he, bel⟩ => ?_
  subst he
  exact ⟨_, rfl, _, _, _, [], _, [], hW', trodAll_mk1 (shut_bool Try.underlying4 _), (trodAll_cons_mk (Below.trod laidOut (by kernel_rfl) (of_decide_eq_true (by kernel_rfl)) k0 bel lt0) (trodAll_cons_mk (shut_int Try.underlying3 w1) (trodAll_cons_mk (shut_int Try.underlying3 w2) trodAll_mk0))), rfl, bel.frame _, fun h => by cases h⟩

theorem over : Rows.layoutBlocksRow.holds Try.pinned (OpenSpec.ofChange Rows.layoutBlocksSpec) :=
  OpenClaim.holds_of_wide 6 Try.f6 rfl rfl rfl rfl rfl rfl rfl ⟨rfl, rfl, rfl, rfl, rfl⟩ rfl rfl rfl rfl rfl (by kernel_rfl) Try.func6 (by kernel_rfl)
    (of_decide_eq_true (by kernel_rfl)) (by unfold Func.isWrapper; first | (rw [if_pos (by decide +kernel)]; kernel_rfl) | (rw [if_neg (by decide +kernel)]; exact ⟨rfl, rfl⟩))
    (fun os started H enc _ => lifted os started H enc)

/-- ████ THE STATEMENT ████ -/
theorem proved : Rows.LayoutBlocksSaid := over
#print axioms proved
end Go.Proofs.Ytegpniiokiejhaa.layoutBlocks
