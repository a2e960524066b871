/- For every layout and number of stripes the statement LayoutEven answers true: of as many stripes as there are nodes each has as many pieces; of any no two nodes differ by more than there are in a stripe; all are there; with no condition. -/
import Derived.Test.YtegpniiokiejhaaRows
import Derived.Test.YtegpniiokiejhaaLyB
import Derived.Test.YtegpniiokiejhaaLa
import Derived.Test.YtegpniiokiejhaaEv
import Derived.WalkKit
import Derived.ProofKit
import Derived.OpenShut
import Derived.ShutString
import Derived.ChangeOld
import Derived.Below
import Derived.SizedLaws
namespace Go.Proofs.Ytegpniiokiejhaa.layoutEven
open Go.ChangeShapes Go.WideShapes Go.ChangeAt Go.RowKit
open Go.ChangeMaps (open_string shut_string)
set_option linter.unusedVariables false

theorem own : ownKnob Try.prog.godebug = none := by kernel_rfl
theorem laidOut : laidOutB Try.prog = true := by kernel_rfl

theorem ret_true {b : Bool} (h : b = true) : Ending.returned (.bool b) = .returned (.bool true) := by rw [h]
/-- between so many and a stripe's more; just so many, where all nodes have the same -/
def Inr (n P S x : Nat) : Prop := S / n * P ≤ x ∧ x ≤ S / n * P + P ∧ (S % n = 0 → x = S / n * P)
theorem ld_ok {N D M T s : Int} (h : ldE N D M T s = 0) : ∃ (n t P S : Nat) (f : Nat → Nat), N = n ∧ T = t ∧ D + M = P ∧ s = S ∧ 1 ≤ n ∧ n ≤ 12 ∧ P ≤ n ∧ S ≤ 64 ∧ ldL N D M T s = (List.range n).map (fun j => ((f j : Nat) : Int)) ∧ (∀ j, j < n → Inr n P S (f j)) ∧ run f n = S * P := by
  obtain ⟨hL, s1, s2⟩ := ld_zero h
  obtain ⟨n1, n2, d1, d2, m1, m2, hf, t1, t2⟩ := hL
  obtain ⟨n, rfl⟩ := Int.eq_ofNat_of_zero_le (show 0 ≤ N by omega)
  obtain ⟨t, rfl⟩ := Int.eq_ofNat_of_zero_le t1
  obtain ⟨S, rfl⟩ := Int.eq_ofNat_of_zero_le s1
  obtain ⟨P, hP⟩ : ∃ P : Nat, D + M = (P : Int) := ⟨(D + M).toNat, by omega⟩
  refine ⟨n, t, P, S, c2 n t P S, rfl, rfl, hP, rfl, by omega, by omega, by omega, by omega, ?_, fun j hj => c2_near hj, c2_sum (by omega)⟩
  unfold ldL
  rw [if_pos h, Int.toNat_natCast, Int.toNat_natCast, show (D + M).toNat = P by omega]
theorem ld_no {N D M T s : Int} (h : ldE N D M T s ≠ 0) : ldL N D M T s = [] := by
  unfold ldL
  rw [if_neg h]
theorem inr_min {n P S a b : Nat} (h : Inr n P S a) (k : Inr n P S b) : Inr n P S (min a b) := by
  unfold Inr at *
  rcases Nat.le_total a b with c | c
  · rw [Nat.min_eq_left c]; exact h
  · rw [Nat.min_eq_right c]; exact k
theorem inr_max {n P S a b : Nat} (h : Inr n P S a) (k : Inr n P S b) : Inr n P S (max a b) := by
  unfold Inr at *
  rcases Nat.le_total a b with c | c
  · rw [Nat.max_eq_right c]; exact k
  · rw [Nat.max_eq_left c]; exact h
theorem inr_big {n P S x : Nat} (h : Inr n P S x) (hP : P ≤ 12) (hS : S ≤ 64) : x ≤ 1000 := by
  have h1 := h.2.1
  have h2 : S / n * P ≤ 64 * 12 := Nat.mul_le_mul (Nat.le_trans (Nat.div_le_self _ _) hS) hP
  omega
set_option maxRecDepth 100000 in
set_option maxHeartbeats 4000000 in
theorem walk (N D M T s : Int) (w : World) (yN : (Lit.int .i64 N).wf = true) (yD : (Lit.int .i64 D).wf = true) (yM : (Lit.int .i64 M).wf = true) (yT : (Lit.int .i64 T).wf = true) (ws : (Lit.int .i64 s).wf = true) :
    Calls Try.prog 5 #[lay N D M T, .int .i64 s] w fun e w' => e = .returned (.bool true) ∧ Below w.heap.size w w' := by
  have b0 := below_new w (.cells #[.int .i64 N, .int .i64 D, .int .i64 M, .int .i64 T] 23)
  have X0 := hid_of (show Bx _ _ _ _ _ _ from heap_new w (.cells #[.int .i64 N, .int .i64 D, .int .i64 M, .int .i64 T] 23))
  have B0 := hid_of b0
  have hmx : Try.prog.follows Departure.mixedOrders = true := by kernel_rfl
  have HO := hid_of (@ld_ok N D M T s)
  have HE := hid_of (@ld_no N D M T s)
  clear b0 yN yM yT ws
  have HN : Hid (lay N D M T = .agg #[.int .i64 N, .int .i64 D, .int .i64 M, .int .i64 T]) := rfl
  rw [HN.out]
  go_enter Try.func5, Try.ntmps5
  go_wp2_with fail
  generalize w.alloc (.cells #[.int .i64 N, .int .i64 D, .int .i64 M, .int .i64 T] 23) = W at *
  refine (load_any N D M T s _).mono ?_
  rintro e w1 ⟨v, rfl, hI, h1⟩
  have B1 := hid_of (B0.out.trans (h1.mono B0.out.size))
  have X1 := hid_of (X0.out.below h1)
  have HI := hid_of hI
  clear h1 B0 X0 hI
  generalize ldL N D M T s = L at HO HE HI
  generalize ldE N D M T s = e1 at HO HE ⊢
  go_wp2_with fail
  refine (begun_any _).mono ?_
  rintro e w2 ⟨rfl, h2⟩
  have B2 := hid_of (B1.out.trans (h2.mono B1.out.size))
  have X2 := hid_of (X1.out.below h2)
  have HI2 := hid_of ((HI.out.below h2).mono h2.size)
  clear h2 B1 X1 HI
  by_cases c1 : e1 = 0
  · obtain ⟨n, t, P, S, f, rfl, rfl, hP, rfl, n1, n2, hPn, hS, hL, hF, hR⟩ := HO.out c1
    have HF := hid_of hF
    have HR := hid_of hR
    have HP := hid_of hP
    subst c1 hL
    obtain ⟨a, c, rfl⟩ := HI2.out.shape
    simp only [List.length_map, List.length_range] at HI2 ⊢
    have HA : Hid (∃ b off, a = some ⟨b, off, none⟩ ∧ ∀ w', Below w2.heap.size w2 w' → ∀ j, j < n → w'.cell? ⟨b, off + j, none⟩ = some (.int .i64 ((f j : Nat) : Int))) := by
      obtain ⟨_, ao, cap, he, _, h6⟩ := HI2.out
      injection he with he _ _
      subst he
      rcases h6 with h6 | ⟨b, off, e, hb, hc⟩
      · have := congrArg List.length h6
        simp at this
        omega
      · refine ⟨b, off, e, fun w' hw' j hj => ?_⟩
        rw [hw'.cell (p := ⟨b, off + j, none⟩) hb, hc j (by simp; exact hj)]
        simp [hj]
    clear HI2 HE HO hF hR hP
    obtain ⟨b, off, rfl, hC⟩ := HA.out
    clear HA
    have HCC := hid_of hC
    have HC : Hid (∀ w', Below w2.heap.size w2 w' → _) := hid_of fun w' hw' => hC w' hw' 0 (by omega)
    have z0 : (0 : Int) < (n : Int) := by omega
    have z1 : 0 < n := by omega
    clear hC
    rw [Nat.add_zero] at HC
    go_wp2_with fail
    refine wp_region_quiet (C := fun w' => Below w2.heap.size w2 w') hmx (by kernel_rfl) ((Below.refl _ _).drew) ?_
    refine wpQuiet_step (fun K hK => ?_)
    go_simp
    (refine ⟨_, fun w' hw' => rfl, hK _ ?_⟩; clear hK K)
    refine wpQuiet_step (fun K hK => ?_)
    go_simp
    (refine ⟨_, fun w' hw' => rfl, hK _ ?_⟩; clear hK K)
    refine wpQuiet_step (fun K hK => ?_)
    go_simp
    (refine ⟨_, fun w' hw' => (by simp only [HC.out w' hw', Result.andThen]; first | exact ⟨rfl, rfl⟩ | exact ⟨trivial, rfl⟩ | rfl), hK _ ?_⟩; clear hK K)
    refine wpQuiet_step (fun K hK => ?_)
    go_simp
    (refine ⟨_, fun w' hw' => rfl, hK _ ?_⟩; clear hK K)
    refine wpQuiet_step (fun K hK => ?_)
    go_simp
    (refine ⟨_, fun w' hw' => rfl, hK _ ?_⟩; clear hK K)
    refine wpQuiet_step (fun K hK => ?_)
    go_simp
    (refine ⟨_, fun w' hw' => (by simp only [HC.out w' hw', Result.andThen]; first | exact ⟨rfl, rfl⟩ | exact ⟨trivial, rfl⟩ | rfl), hK _ ?_⟩; clear hK K)
    refine wpQuiet_step (fun K hK => ?_)
    go_simp
    (refine ⟨_, fun w' hw' => rfl, hK _ ?_⟩; clear hK K)
    refine wpQuiet_step (fun K hK => ?_)
    go_simp
    (refine ⟨_, fun w' hw' => rfl, hK _ ?_⟩; clear hK K)
    refine wpQuiet_step (fun K hK => ?_)
    go_simp
    (refine ⟨_, fun w' hw' => rfl, hK _ ?_⟩; clear hK K)
    refine wpQuiet_nil ?_
    intro wq hq
    clear HC
    have hi0 := hid_of (HF.out 0 (by omega))
    go_wp2_with fail
    go_loopw [7, 8, 9, 10] (fun al lo hi i w' => ∃ k l h : Nat, k ≤ n ∧ al = .int .i64 (run f k : Nat) ∧ lo = .int .i64 l ∧ hi = .int .i64 h ∧ i = .int .i64 k ∧ Hid (Inr n P S l ∧ Inr n P S h) ∧ Hid (Below w2.heap.size w2 w')) (fun _ _ _ i _ => n - (intOf i).toNat)
    case atStart => exact ⟨0, f 0, f 0, by omega, rfl, rfl, rfl, rfl, ⟨hi0.out, hi0.out⟩, hq⟩
    case round =>
      obtain ⟨k, l, h, hk, rfl, rfl, rfl, rfl, HIn, HW⟩ := hrel
      by_cases hlt : k < n
      · have tl : decide ((k : Int) < (n : Int)) = true := decide_eq_true (by omega)
        have tl' : (k : Int) < (n : Int) := by omega
        have HWn := HW.out.size
        have HC : Hid (∀ w', Below wr.heap.size wr w' → w'.cell? ⟨b, off + k, none⟩ = some (.int .i64 ((f k : Nat) : Int))) := hid_of fun w' hw' => HCC.out w' (HW.out.trans (hw'.mono HWn)) k hlt
        have k9 := HC.out wr (Below.refl _ _)
        have hfk := inr_big (HF.out k hlt) (by omega) hS
        have hrk : run f k ≤ S * P := by rw [← HR.out]; exact run_mono f (by omega)
        have hSP : S * P ≤ 64 * 12 := Nat.mul_le_mul hS (by omega)
        have hrk2 : run f k ≤ 1000 := by omega
        have g1 : IntKind.i64.wrap ((run f k : Nat) + (f k : Nat)) = ((run f (k + 1) : Nat) : Int) := by
          rw [Go.IntWalk.i64_in _ (by omega)]; simp only [run]; omega
        have HIk := hid_of (HF.out k hlt)
        clear hrk hSP
        go_wp2_with fail
        refine wp_region_quiet (C := fun w' => Below wr.heap.size wr w') hmx (by kernel_rfl) ((Below.refl _ _).drew) ?_
        refine wpQuiet_step (fun K hK => ?_)
        go_simp
        (refine ⟨_, fun w' hw' => rfl, hK _ ?_⟩; clear hK K)
        refine wpQuiet_step (fun K hK => ?_)
        go_simp
        (refine ⟨_, fun w' hw' => rfl, hK _ ?_⟩; clear hK K)
        refine wpQuiet_step (fun K hK => ?_)
        go_simp
        (refine ⟨_, fun w' hw' => rfl, hK _ ?_⟩; clear hK K)
        refine wpQuiet_step (fun K hK => ?_)
        go_simp
        (refine ⟨_, fun w' hw' => rfl, hK _ ?_⟩; clear hK K)
        refine wpQuiet_step (fun K hK => ?_)
        go_simp
        (refine ⟨_, fun w' hw' => (by simp only [HC.out w' hw', Result.andThen]; first | exact ⟨rfl, rfl⟩ | exact ⟨trivial, rfl⟩ | rfl), hK _ ?_⟩; clear hK K)
        refine wpQuiet_step (fun K hK => ?_)
        go_simp
        (refine ⟨_, fun w' hw' => rfl, hK _ ?_⟩; clear hK K)
        refine wpQuiet_step (fun K hK => ?_)
        go_simp
        (refine ⟨_, fun w' hw' => rfl, hK _ ?_⟩; clear hK K)
        refine wpQuiet_step (fun K hK => ?_)
        go_simp
        (refine ⟨_, fun w' hw' => rfl, hK _ ?_⟩; clear hK K)
        refine wpQuiet_step (fun K hK => ?_)
        go_simp
        (refine ⟨_, fun w' hw' => rfl, hK _ ?_⟩; clear hK K)
        refine wpQuiet_step (fun K hK => ?_)
        go_simp
        (refine ⟨_, fun w' hw' => rfl, hK _ ?_⟩; clear hK K)
        refine wpQuiet_step (fun K hK => ?_)
        go_simp
        (refine ⟨_, fun w' hw' => (by simp only [HC.out w' hw', Result.andThen]; first | exact ⟨rfl, rfl⟩ | exact ⟨trivial, rfl⟩ | rfl), hK _ ?_⟩; clear hK K)
        refine wpQuiet_step (fun K hK => ?_)
        go_simp
        (refine ⟨_, fun w' hw' => rfl, hK _ ?_⟩; clear hK K)
        refine wpQuiet_step (fun K hK => ?_)
        go_simp
        (refine ⟨_, fun w' hw' => rfl, hK _ ?_⟩; clear hK K)
        refine wpQuiet_step (fun K hK => ?_)
        go_simp
        (refine ⟨_, fun w' hw' => rfl, hK _ ?_⟩; clear hK K)
        refine wpQuiet_nil ?_
        intro wq hq
        go_wp2_with fail
        refine ⟨⟨k + 1, if f k < l then f k else l, if h < f k then f k else h, by omega, rfl, ?_, ?_, by go_num, ⟨?_, ?_⟩, HW.out.trans (hq.mono HWn)⟩, by simp [intOf]; omega⟩
        · split <;> rfl
        · split <;> rfl
        · split
          · exact HIk.out
          · exact HIn.out.1
        · split
          · exact HIk.out
          · exact HIn.out.2
      · have hke : k = n := by omega
        subst hke
        obtain ⟨i1, i2⟩ := HIn.out
        have hl := inr_big i1 (by omega) hS
        have hh := inr_big i2 (by omega) hS
        have hd : (h : Int) - (l : Int) ≤ (P : Int) := by have := i1.1; have := i2.2.1; omega
        have tl : decide ((k : Int) < (k : Int)) = false := decide_eq_false (by omega)
        have hPP := HP.out
        have g0 : S * P ≤ 64 * 12 := Nat.mul_le_mul hS (by omega)
        have g1 : (S : Int) * (P : Int) ≤ 768 := by have := Int.ofNat_le.2 g0; push_cast at this; omega
        have g2 : 0 ≤ (S : Int) * (P : Int) := Int.mul_nonneg (by omega) (by omega)
        have g3 : (((run f k : Nat) : Int) == (S : Int) * (P : Int)) = true := by rw [HR.out]; simp
        have k9 := (X2.out.below HW.out).cells
        obtain ⟨k0, k1, k2, k3⟩ := k9
        have HEq : Hid (S % k = 0 → l = h) := hid_of fun e => by rw [i1.2.2 e, i2.2.2 e]
        have nz : ¬ ((k : Int) = 0) := by omega
        have B9 := hid_of (B2.out.trans (HW.out.mono B2.out.size))
        clear i1 i2 HIn HF HR g0 HCC hi0 HW hq B2 X2 HP
        by_cases m0 : S % k = 0
        · have hlh := HEq.out m0
          subst hlh
          go_wp2_with fail
          go_ret
          refine ⟨ret_true ?_, B9.out⟩
          simp
        · go_wp2_with fail
          go_ret
          exact ⟨ret_true rfl, B9.out⟩
  · have tx : (e1 != 0) = true := by rw [bne_iff_ne]; exact c1
    have hL := HE.out c1
    subst hL
    obtain ⟨a, c, rfl⟩ := HI2.out.shape
    clear HO HE HI2
    go_wp2_with fail
    go_ret
    exact ⟨rfl, B2.out⟩

set_option maxRecDepth 100000 in
theorem lifted (os : Os) (started : os.Started) (H : Type) (enc : TypeId × Value → H) :
    ReturnsInHanded {} Try.checked os 5 .any (Rows.layoutEvenSpec.pre6 enc Try.prog Try.f5 Rows.layoutEvenRow.domain false) (Rows.layoutEvenSpec.post enc Try.prog Try.f5 false true false false) := by
  refine returnsInHanded_of_change_sized (C := Try.checked) own started (by kernel_rfl) Try.func5
    (ChangeSpec.witness6 (enc := enc) (C := Try.checked) false ⟨#[], #[.agg #[.int .i64 0, .int .i64 0, .int .i64 0, .int .i64 0], .int .i64 0], []⟩ 8 (by kernel_rfl) (by kernel_rfl) (by kernel_rfl) (by kernel_rfl)) ?_
  intro W base args ds gs before hval0 hW hcnd hsz0 _
  have hsz : (DataW.weightsEach Try.prog (Try.f5.params.toList ++ Rows.layoutEvenSpec.plain.varTypes Try.prog) (ds ++ gs)).all (· ≤ reachBytes) = true := hsz0
  clear hsz0
  have hval : ∀ (j : Nat) t v, Try.f5.params[j]? = some t → args[j]? = some v → Value.okWide Try.prog W .any base t v := hval0
  have hW' := hW
  obtain ⟨p, q, hA0, hV, rfl, hfz, hnd⟩ := hW
  have hA : DataW.TrodAll enc Try.prog W 0 (fun _ => true) true Try.f5.params.toList args.toList ds p := hA0
  rw [Try.params5] at hA hval hsz
  obtain ⟨v0, vs0, d0, ds0, p0, q0, hargs, rfl, rfl, h0, r0⟩ := trodAll_cons hA
  obtain ⟨v1, vs1, d1, ds1, p1, q1, rfl, rfl, rfl, h1, r1⟩ := trodAll_cons r0
  obtain ⟨rfl, rfl, rfl⟩ := trodAll_nil r1
  obtain rfl : args = #[v0, v1] := by cases args; simp_all
  obtain ⟨rfl, rfl⟩ := trodVars_none hV
  have k0 := h0
  have lt0 : ∀ x ∈ p0, x.block < W.heap.size := by obtain ⟨m, hm⟩ := k0; exact DataW.trod_lt m _ _ _ hm
  obtain ⟨N0, D0, M0, T0, rfl, y0a, y0b, y0c, y0d⟩ := open_lay (hval 0 23 v0 rfl rfl) h0
  obtain ⟨x1, rfl, rfl, rfl, w1⟩ := open_int Try.underlying3 (hval 1 3 v1 rfl rfl) h1
  clear hA0 hval0
  refine (walk N0 D0 M0 T0 x1 W y0a y0b y0c y0d w1).mono fun e W' ⟨he, bel⟩ => ?_
  subst he
  exact ⟨_, rfl, _, _, _, [], _, [], hW', trodAll_mk1 (shut_bool Try.underlying4 _), (trodAll_cons_mk (Below.trod laidOut (by kernel_rfl) (of_decide_eq_true (by kernel_rfl)) k0 bel lt0) (trodAll_cons_mk (shut_int Try.underlying3 w1) trodAll_mk0)), rfl, bel.frame _, fun h => by cases h⟩

theorem over : Rows.layoutEvenRow.holds Try.pinned (OpenSpec.ofChange Rows.layoutEvenSpec) :=
  OpenClaim.holds_of_wide 5 Try.f5 rfl rfl rfl rfl rfl rfl rfl ⟨rfl, rfl, rfl, rfl, rfl⟩ rfl rfl rfl rfl rfl (by kernel_rfl) Try.func5 (by kernel_rfl)
    (of_decide_eq_true (by kernel_rfl)) (by unfold Func.isWrapper; first | (rw [if_pos (by decide +kernel)]; kernel_rfl) | (rw [if_neg (by decide +kernel)]; exact ⟨rfl, rfl⟩))
    (fun os started H enc _ => lifted os started H enc)

/-- ████ THE STATEMENT ████ -/
theorem proved : Rows.LayoutEvenSaid := over
#print axioms proved
end Go.Proofs.Ytegpniiokiejhaa.layoutEven
