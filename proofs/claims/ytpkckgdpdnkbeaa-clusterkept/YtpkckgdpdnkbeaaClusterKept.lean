/- What an operation of a cluster that is done knew, or wrote, is kept by enough nodes, or something later is, whatever was lost, came twice, or out of turn. -/
import Derived.Test.YtpkckgdpdnkbeaaRows
import Derived.Test.YtpkckgdpdnkbeaaDk
import Derived.Test.YtpkckgdpdnkbeaaZw
import Derived.WalkKit
import Derived.ProofKit
import Derived.OpenShut
import Derived.ShutString
import Derived.ChangeOld
import Derived.Below
import Derived.SizedLaws
namespace Go.Proofs.Ytpkckgdpdnkbeaa.clusterKept
open Go.ChangeShapes Go.WideShapes Go.ChangeAt Go.RowKit
open Go.ChangeMaps (open_string shut_string)

theorem own : ownKnob Try.prog.godebug = none := by kernel_rfl
theorem laidOut : laidOutB Try.prog = true := by kernel_rfl

abbrev bO (b : Bool) : Out := .done .ret ⟨[some (.bool b)], []⟩
set_option maxRecDepth 100000 in
theorem run_kept (m l : Nat) (w sg : Nat → List Value) (need i : Int) : evV K40 lKe Try.f8 [.agg ⟨[.slice (some ⟨0, 0, some 0⟩) m m, .int .i64 need]⟩, .slice (some ⟨1, 0, some 0⟩) l l, .int .i64 i] [.recs wtK m w, .recs spK l sg] =
    .ask (m + 0 ≤ m ∧ m ≤ 140737488355328) (.ask (l + 0 ≤ l ∧ l ≤ 140737488355328) (tst (!ranB m w need l) (bO true) (tst (decide (i < 0)) (bO true) (tst (decide (i ≥ ((ranC m w need l sg).b : Int))) (bO true)
      (.ask (0 ≤ i ∧ i < ((ranC m w need l sg).b : Int)) (.ask (i.toNat + 0 < (ranC m w need l sg).b) (tst (mNo ((ranC m w need l sg).ak i.toNat) != 3) (bO true)
        (.ask (([.int .i64 i, .pointer (some ⟨9, 0, none⟩), .int .u64 0, .int .i64 0] : List Value) = [.int .i64 i, .pointer (some ⟨9, 0, none⟩), .int .u64 0, .int .i64 0] ∧ keH m l w sg need (ranC m w need l sg) = keH m l w sg need (ranC m w need l sg) ∧ 0 ≤ i ∧ i < ((ranC m w need l sg).b : Int) ∧ (ranC m w need l sg).a ≤ 1000)
          (.ask ((ranC m w need l sg).m + 0 ≤ (ranC m w need l sg).m ∧ (ranC m w need l sg).m ≤ 140737488355328)
            (tst (x1_enough (ranC m w need l sg).m (ranC m w need l sg).w (ranC m w need l sg).need (setK (ranC m w need l sg) i.toNat (ranC m w need l sg).a) == 0) (bO (x0_enough (ranC m w need l sg).m (ranC m w need l sg).w (ranC m w need l sg).need (setK (ranC m w need l sg) i.toNat (ranC m w need l sg).a))) (bO false))))))))))) := by kernel_rfl
theorem law_sat (len0 : Nat) (g0 : Nat → List Value) (x0 : Int) (len1 : Nat) (g1 : Nat → List Value) (x2 : Int) (_r0 : ∀ j, j < len0 → rngs wtK (g0 j)) (_r1 : (Lit.int .i64 x0).wf = true) (_r2 : ∀ j, j < len1 → rngs spK (g1 j)) (_r3 : (Lit.int .i64 x2).wf = true) : Bnd [.rows wtK len0 g0, .val (.int .i64 x0), .rows spK len1 g1, .val (.int .i64 x2)] → (evV K40 lKe Try.f8 (regr [.agg [.rows wtK, .val], .one (.rows spK), .one .val] (canonA 0 [.rows wtK len0 g0, .val (.int .i64 x0), .rows spK len1 g1, .val (.int .i64 x2)])) (canonH [.rows wtK len0 g0, .val (.int .i64 x0), .rows spK len1 g1, .val (.int .i64 x2)])).sat fun _ S => S.slots = [some (.bool true)] := fun hb => by
  have hb0 : len0 ≤ 140737488355328 := hb.1
  have hb1 : len1 ≤ 140737488355328 := hb.2.1
  show (evV K40 lKe Try.f8 [.agg ⟨[.slice (some ⟨0, 0, some 0⟩) len0 len0, .int .i64 x0]⟩, .slice (some ⟨1, 0, some 0⟩) len1 len1, .int .i64 x2] [.recs wtK len0 g0, .recs spK len1 g1]).sat _
  rw [run_kept]
  refine sat_ask ⟨by omega, hb0⟩ (sat_ask ⟨by omega, hb1⟩ (sat_tst (fun _ => rfl) fun hr => ?_))
  have hr : ranB len0 g0 x0 len1 = true := by simpa using hr
  obtain ⟨rt, kp, -⟩ := ord_all hr g1
  generalize ranC len0 g0 x0 len1 g1 = C at rt kp ⊢
  have h12 := rt.m12
  have ham := rt.am
  refine sat_tst (fun _ => rfl) fun h1 => sat_tst (fun _ => rfl) fun h2 => ?_
  have h1 := of_decide_eq_false h1
  have h2 := of_decide_eq_false h2
  have hi : x2.toNat < C.b := by omega
  refine sat_ask ⟨by omega, by omega⟩ (sat_ask (by omega) (sat_tst (fun _ => rfl) fun p1 => sat_ask ⟨rfl, rfl, by omega, by omega, by omega⟩ (sat_ask ⟨by omega, by omega⟩ ?_)))
  have p1 : mNo (C.ak x2.toNat) = 3 := bne_f2 p1
  obtain ⟨_, s2, s3⟩ := setK_ok C x2.toNat (M := C.m) h12 C.a (by omega)
  have ha := enough_sm rt.q (kp.fin x2.toNat hi p1)
  have hm := qE_m rt.q
  have mono := sm_mono hm.2.2.1 (s := q7 (C.ak x2.toNat)) (t := setK C x2.toNat C.a) (wsOf C.m C.w).length (Nat.le_refl _) fun n hn hbn => by
    rw [ws_len] at hn
    exact s3 n (by omega) (kp.put x2.toNat hi (by rw [p1]; decide) n hn hbn)
  obtain ⟨e1, e2⟩ := enough_all rt.q s2 (Int.le_trans ha mono)
  rw [e1, e2]
  exact sat_tst (fun _ => rfl) fun h => by cases h

theorem K40_P : K40.P = Try.prog := rfl
theorem walk (W : World) {a0 : Option Addr} (len0 cap0 : Nat) (g0 : Nat → List Value) (x0 : Int) (w0 : ArgOk W (.rows wtK len0 g0) (.slice a0 len0 cap0)) (rg0 : ∀ j, j < len0 → rngs wtK (g0 j)) (rx0 : (Lit.int .i64 x0).wf = true) {a1 : Option Addr} (len1 cap1 : Nat) (g1 : Nat → List Value) (w1 : ArgOk W (.rows spK len1 g1) (.slice a1 len1 cap1)) (rg1 : ∀ j, j < len1 → rngs spK (g1 j)) (x2 : Int) (rg2 : (Lit.int .i64 x2).wf = true) : Calls Try.prog 8 #[.agg ⟨[.slice a0 len0 cap0, .int .i64 x0]⟩, .slice a1 len1 cap1, .int .i64 x2] W fun e w' => e = .returned (.bool true) ∧ Below W.heap.size W w' := by
  rewrite [← K40_P]
  refine law_ok (W := W) K40_ok (L := lKe) (f := 8) (fn := Try.f8) Try.func8 (one_loop (by kernel_rfl) lKe_ok) (ks := [.agg [.rows wtK, .val], .one (.rows spK), .one .val]) (cas := [.rows wtK len0 g0, .val (.int .i64 x0), .rows spK len1 g1, .val (.int .i64 x2)]) (us := [.agg ⟨[.slice a0 len0 cap0, .int .i64 x0]⟩, .slice a1 len1 cap1, .int .i64 x2]) (ful := [.slice a0 len0 cap0, .int .i64 x0, .slice a1 len1 cap1, .int .i64 x2]) (r := .bool true) rfl rfl rfl ?_ (@law_sat len0 g0 x0 len1 g1 x2 rg0 rx0 rg1 rg2)
  intro i c u hc hu
  match i, hc, hu with
  | 0, hc, hu => cases hc; cases hu; exact w0
  | 1, hc, hu => cases hc; cases hu; exact ⟨rfl, rfl⟩
  | 2, hc, hu => cases hc; cases hu; exact w1
  | 3, hc, hu => cases hc; cases hu; exact ⟨rfl, rfl⟩
  | i + 4, hc, hu => simp at hc

set_option maxRecDepth 100000 in
theorem lifted (os : Os) (started : os.Started) (H : Type) (enc : TypeId × Value → H) :
    ReturnsInHanded {} Try.checked os 8 .any (Rows.clusterKeptSpec.pre6 enc Try.prog Try.f8 Rows.clusterKeptRow.domain false) (Rows.clusterKeptSpec.post enc Try.prog Try.f8 false true false false) := by
  refine returnsInHanded_of_change_sized (C := Try.checked) own started (by kernel_rfl) Try.func8
    (ChangeSpec.witness6 (enc := enc) (C := Try.checked) false ⟨#[], #[.agg ⟨[.slice none 0 0, .int .i64 0]⟩, .slice none 0 0, .int .i64 0], []⟩ 8 (by kernel_rfl) (by kernel_rfl) (by kernel_rfl) (by kernel_rfl)) ?_
  intro W base args ds gs before hval0 hW hcnd hsz0 _
  have hsz : (DataW.weightsEach Try.prog (Try.f8.params.toList ++ Rows.clusterKeptSpec.plain.varTypes Try.prog) (ds ++ gs)).all (· ≤ reachBytes) = true := hsz0
  clear hsz0
  have hval : ∀ (j : Nat) t v, Try.f8.params[j]? = some t → args[j]? = some v → Value.okWide Try.prog W .any base t v := hval0
  have hW' := hW
  obtain ⟨p, q, hA0, hV, rfl, hfz, hnd⟩ := hW
  have hA : DataW.TrodAll enc Try.prog W 0 (fun _ => true) true Try.f8.params.toList args.toList ds p := hA0
  rw [Try.params8] at hA hval hsz
  obtain ⟨v0, vs0, d0, ds0, p0, q0, hargs, rfl, rfl, h0, r0⟩ := trodAll_cons hA
  obtain ⟨v1, vs1, d1, ds1, p1, q1, rfl, rfl, rfl, h1, r1⟩ := trodAll_cons r0
  obtain ⟨v2, vs2, d2, ds2, p2, q2, rfl, rfl, rfl, h2, r2⟩ := trodAll_cons r1
  obtain ⟨rfl, rfl, rfl⟩ := trodAll_nil r2
  obtain rfl : args = #[v0, v1, v2] := by cases args; simp_all
  obtain ⟨rfl, rfl⟩ := trodVars_none hV
  have k0 := h0
  have lt0 : ∀ x ∈ p0, x.block < W.heap.size := by obtain ⟨m, hm⟩ := k0; exact DataW.trod_lt m _ _ _ hm
  obtain ⟨a0, len0, cap0, x0, g0, rfl, w0, rg0, rx0⟩ := open_rowInt (P := Try.prog) (sh := wtK) (n := 9) (e := 3) (j := 0) Try.underlying24 (by kernel_rfl) rfl rfl (by kernel_rfl) (by kernel_rfl) Try.underlying22 Try.underlying3 (by kernel_rfl) (by kernel_rfl) (by decide) (of_decide_eq_true (by kernel_rfl)) (hval 0 24 v0 rfl rfl) h0 hsz rfl rfl
  obtain ⟨a1, len1, cap1, rfl⟩ := okWide_slice Try.underlying41 (hval 1 41 v1 rfl rfl)
  have k1 := h1
  have lt1 : ∀ x ∈ p1, x.block < W.heap.size := by obtain ⟨m, hm⟩ := k1; exact DataW.trod_lt m _ _ _ hm
  obtain ⟨g1, w1, rg1⟩ : ∃ g, ArgOk W (.rows spK len1 g) (.slice a1 len1 cap1) ∧ ∀ j, j < len1 → rngs spK (g j) := by
    obtain ⟨fuel, hf⟩ := h1
    exact arg_rowsR (P := Try.prog) (sh := spK) (n := 9) (e := 32) (j := 1) Try.underlying41 (by kernel_rfl) (by kernel_rfl) (by decide) (of_decide_eq_true (by kernel_rfl)) hf hsz rfl rfl
  obtain ⟨x2, rfl, rfl, rfl, w2⟩ := open_int Try.underlying3 (hval 2 3 v2 rfl rfl) h2
  clear hA0 hval0
  refine (walk W len0 cap0 g0 x0 w0 rg0 rx0 len1 cap1 g1 w1 rg1 x2 w2).mono fun e W' ⟨he, bel⟩ => ?_
  subst he
  exact ⟨_, rfl, _, _, _, [], _, [], hW', trodAll_mk1 (shut_bool Try.underlying4 _), (trodAll_cons_mk (Below.trod laidOut (by kernel_rfl) (of_decide_eq_true (by kernel_rfl)) k0 bel lt0) (trodAll_cons_mk (Below.trod laidOut (by kernel_rfl) (of_decide_eq_true (by kernel_rfl)) k1 bel lt1) (trodAll_cons_mk (shut_int Try.underlying3 w2) trodAll_mk0))), rfl, bel.frame _, fun h => by cases h⟩

theorem over : Rows.clusterKeptRow.holds Try.pinned (OpenSpec.ofChange Rows.clusterKeptSpec) :=
  OpenClaim.holds_of_wide 8 Try.f8 rfl rfl rfl rfl rfl rfl rfl ⟨rfl, rfl, rfl, rfl, rfl⟩ rfl rfl rfl rfl rfl (by kernel_rfl) Try.func8 (by kernel_rfl)
    (of_decide_eq_true (by kernel_rfl)) (by unfold Func.isWrapper; first | (rw [if_pos (by decide +kernel)]; kernel_rfl) | (rw [if_neg (by decide +kernel)]; exact ⟨rfl, rfl⟩))
    (fun os started H enc _ => lifted os started H enc)

/-- ████ THE STATEMENT ████ -/
theorem proved : Rows.ClusterKeptSaid := over
#print axioms proved
end Go.Proofs.Ytpkckgdpdnkbeaa.clusterKept
