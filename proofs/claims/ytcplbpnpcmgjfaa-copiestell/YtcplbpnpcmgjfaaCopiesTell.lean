/- Proved: for every two copies and every list of copies the statement CopiesTell of the program answers true, with no condition: all calls of package copies answer just what the document's own calls answer, errors too. -/
import Derived.Test.YtcplbpnpcmgjfaaRows
import Derived.Test.YtcplbpnpcmgjfaaCf
import Derived.Test.YtcplbpnpcmgjfaaCg
import Derived.Test.YtcplbpnpcmgjfaaCh
import Derived.WalkKit
import Derived.ProofKit
import Derived.OpenShut
import Derived.ShutString
import Derived.ChangeOld
import Derived.Below
import Derived.SizedLaws
namespace Go.Proofs.Ytcplbpnpcmgjfaa.copiesTell
open Go.ChangeShapes Go.WideShapes Go.ChangeAt Go.RowKit
open Go.ChangeMaps (open_string shut_string)
set_option linter.unusedVariables false

theorem own : ownKnob Try.prog.godebug = none := by kernel_rfl
theorem laidOut : laidOutB Try.prog = true := by kernel_rfl

set_option maxRecDepth 100000 in
set_option maxHeartbeats 4000000 in
theorem walk (a b : Cp) (v : Value) (L : List Cp) (w : World) (_ : (Lit.int .i64 a.1.1).wf = true) (_ : (Lit.int .i64 a.1.2).wf = true) (_ : (Lit.int .i64 b.1.1).wf = true) (_ : (Lit.int .i64 b.1.2).wf = true) (hL : Cs w.heap.size w v L) :
    Calls Try.prog 7 #[cv a, cv b, v] w fun e w' => e = .returned (.bool true) ∧ Below w.heap.size w w' := by
  have XL := hid_of hL
  obtain ⟨ao, c, rfl⟩ := hL.shape
  clear hL
  obtain ⟨⟨a1, a2⟩, a3⟩ := a
  obtain ⟨⟨b1, b2⟩, b3⟩ := b
  have HN : Hid (∀ p : Cp, cv p = .agg #[.int .i64 p.1.1, .int .i64 p.1.2, .string p.2]) := fun _ => rfl
  have hmx : Try.prog.follows Departure.mixedOrders = true := by kernel_rfl
  rw [HN.out, HN.out]
  obtain ⟨W0, hW0, BB, XA, XB, -⟩ := new2 w (.cells #[.int .i64 a1, .int .i64 a2, .string a3] 37) (.cells #[.int .i64 b1, .int .i64 b2, .string b3] 37)
  replace XA := hid_of (show Bc W0 _ ((a1, a2), a3) from XA)
  replace XB := hid_of (show Bc W0 _ ((b1, b2), b3) from XB)
  replace XL := hid_of ((XL.out.below BB).mono BB.size)
  replace BB := hid_of BB
  obtain ⟨⟨⟨m1, m2⟩, m3⟩, hm⟩ : ∃ p, soV ((a1, a2), a3) ((b1, b2), b3) = p := ⟨_, rfl⟩
  obtain ⟨me, hme⟩ : ∃ p, soE ((a1, a2), a3) ((b1, b2), b3) = p := ⟨_, rfl⟩
  obtain ⟨⟨⟨n1, n2⟩, n3⟩, hn⟩ : ∃ p, mgV L = p := ⟨_, rfl⟩
  obtain ⟨ne, hne⟩ : ∃ p, clE L = p := ⟨_, rfl⟩
  obtain ⟨sl, hsl⟩ : ∃ p : Nat, slV L = p := ⟨_, rfl⟩
  have K1 : Hid (∀ w', Calls Try.prog 18 #[.agg #[.int .i64 a1, .int .i64 a2, .string a3], .agg #[.int .i64 b1, .int .i64 b2, .string b3]] w' fun e w2 => e = .returned (.tuple #[.agg #[.int .i64 m1, .int .i64 m2, .string m3], .int .i64 me]) ∧ Below w'.heap.size w' w2) := hid_of (fun w' => by have := store_any ((a1, a2), a3) ((b1, b2), b3) w'; rw [hm, hme] at this; exact this)
  have K2 : Hid (∀ w', Cs w'.heap.size w' (.slice ao L.length c) L → Calls Try.prog 19 #[.slice ao L.length c] w' fun e w2 => e = .returned (.tuple #[.agg #[.int .i64 n1, .int .i64 n2, .string n3], .int .i64 ne]) ∧ Below w'.heap.size w' w2) := hid_of (fun w' h => by have := merge_any _ L w' h; rw [hn, hne] at this; exact this)
  have K3 : Hid (∀ w', Cs w'.heap.size w' (.slice ao L.length c) L → Calls Try.prog 20 #[.slice ao L.length c] w' fun e w2 => e = .returned (.tuple #[.int .u64 sl, .int .i64 ne]) ∧ Below w'.heap.size w' w2) := hid_of (fun w' h => by have := stale_any _ L w' h; rw [hsl, hne] at this; exact this)
  have K4 : Hid (∀ w', Calls Try.prog 21 #[.agg #[.int .i64 a1, .int .i64 a2, .string a3], .agg #[.int .i64 b1, .int .i64 b2, .string b3]] w' fun e w2 => e = .returned (.tuple #[.agg #[.int .i64 m1, .int .i64 m2, .string m3], .int .i64 me]) ∧ Below w'.heap.size w' w2) := hid_of (fun w' => by have := rstored_any ((a1, a2), a3) ((b1, b2), b3) w'; rw [hm, hme] at this; exact this)
  have K5 : Hid (∀ w', Cs w'.heap.size w' (.slice ao L.length c) L → Calls Try.prog 22 #[.slice ao L.length c] w' fun e w2 => e = .returned (.tuple #[.agg #[.int .i64 n1, .int .i64 n2, .string n3], .int .i64 ne]) ∧ Below w'.heap.size w' w2) := hid_of (fun w' h => by have := rmerged_any _ L w' h; rw [hn, hne] at this; exact this)
  have K6 : Hid (∀ w', Cs w'.heap.size w' (.slice ao L.length c) L → Calls Try.prog 23 #[.slice ao L.length c] w' fun e w2 => e = .returned (.tuple #[.int .u64 sl, .int .i64 ne]) ∧ Below w'.heap.size w' w2) := hid_of (fun w' h => by have := rstale_any _ L w' h; rw [hsl, hne] at this; exact this)
  clear hm hn hme hne hsl
  have C1 := hid_of (cck_at a1 a2 a3)
  have C2 := hid_of (rcck_at a1 a2 a3)
  generalize cck ((a1, a2), a3) = ck at *
  obtain ⟨x0, x1, x2⟩ := XA.out.cells
  obtain ⟨y0, y1, y2⟩ := XB.out.cells
  go_enter Try.func7, Try.ntmps7
  go_wp2_with fail
  clear hW0 x0 x1 x2 y0 y1 y2
  generalize w.heap.size + 1 = gb at *
  refine (K1.out _).mono ?_
  rintro e u1 ⟨rfl, h⟩
  replace XL := hid_of ((XL.out.below h).mono h.size)
  replace XA := hid_of (XA.out.below h XA.out.lt)
  replace XB := hid_of (XB.out.below h XB.out.lt)
  replace BB := hid_of (BB.out.trans (h.mono BB.out.size))
  clear h
  obtain ⟨W1, hW1, bn, XM, -⟩ := new1 u1 (.cells #[.int .i64 m1, .int .i64 m2, .string m3] 37)
  replace XM := hid_of (show Bc W1 _ ((m1, m2), m3) from XM)
  replace XL := hid_of ((XL.out.below bn).mono bn.size)
  replace XA := hid_of (XA.out.below bn XA.out.lt)
  replace XB := hid_of (XB.out.below bn XB.out.lt)
  replace BB := hid_of (BB.out.trans (bn.mono BB.out.size))
  clear bn
  go_wp2_with fail
  clear hW1
  generalize u1.heap.size = g1 at *
  refine (K2.out _ XL.out).mono ?_
  rintro e u2 ⟨rfl, h⟩
  replace XL := hid_of ((XL.out.below h).mono h.size)
  replace XA := hid_of (XA.out.below h XA.out.lt)
  replace XB := hid_of (XB.out.below h XB.out.lt)
  replace XM := hid_of (XM.out.below h XM.out.lt)
  replace BB := hid_of (BB.out.trans (h.mono BB.out.size))
  clear h
  obtain ⟨W2, hW2, bn, XN, -⟩ := new1 u2 (.cells #[.int .i64 n1, .int .i64 n2, .string n3] 37)
  replace XN := hid_of (show Bc W2 _ ((n1, n2), n3) from XN)
  replace XL := hid_of ((XL.out.below bn).mono bn.size)
  replace XA := hid_of (XA.out.below bn XA.out.lt)
  replace XB := hid_of (XB.out.below bn XB.out.lt)
  replace XM := hid_of (XM.out.below bn XM.out.lt)
  replace BB := hid_of (BB.out.trans (bn.mono BB.out.size))
  clear bn
  go_wp2_with fail
  clear hW2
  generalize u2.heap.size = g2 at *
  refine (K3.out _ XL.out).mono ?_
  rintro e u3 ⟨rfl, h⟩
  replace XL := hid_of ((XL.out.below h).mono h.size)
  replace XA := hid_of (XA.out.below h XA.out.lt)
  replace XB := hid_of (XB.out.below h XB.out.lt)
  replace XM := hid_of (XM.out.below h XM.out.lt)
  replace XN := hid_of (XN.out.below h XN.out.lt)
  replace BB := hid_of (BB.out.trans (h.mono BB.out.size))
  clear h
  obtain ⟨x0, x1, x2⟩ := XA.out.cells
  obtain ⟨y0, y1, y2⟩ := XB.out.cells
  go_wp2_with fail
  clear x0 x1 x2 y0 y1 y2
  refine (K4.out _).mono ?_
  rintro e u4 ⟨rfl, h⟩
  replace XL := hid_of ((XL.out.below h).mono h.size)
  replace XA := hid_of (XA.out.below h XA.out.lt)
  replace XB := hid_of (XB.out.below h XB.out.lt)
  replace XM := hid_of (XM.out.below h XM.out.lt)
  replace XN := hid_of (XN.out.below h XN.out.lt)
  replace BB := hid_of (BB.out.trans (h.mono BB.out.size))
  clear h
  obtain ⟨W4, hW4, bn, XP, -⟩ := new1 u4 (.cells #[.int .i64 m1, .int .i64 m2, .string m3] 37)
  replace XP := hid_of (show Bc W4 _ ((m1, m2), m3) from XP)
  replace XL := hid_of ((XL.out.below bn).mono bn.size)
  replace XA := hid_of (XA.out.below bn XA.out.lt)
  replace XB := hid_of (XB.out.below bn XB.out.lt)
  replace XM := hid_of (XM.out.below bn XM.out.lt)
  replace XN := hid_of (XN.out.below bn XN.out.lt)
  replace BB := hid_of (BB.out.trans (bn.mono BB.out.size))
  clear bn
  go_wp2_with fail
  clear hW4
  generalize u4.heap.size = g4 at *
  refine (K5.out _ XL.out).mono ?_
  rintro e u5 ⟨rfl, h⟩
  replace XL := hid_of ((XL.out.below h).mono h.size)
  replace XA := hid_of (XA.out.below h XA.out.lt)
  replace XB := hid_of (XB.out.below h XB.out.lt)
  replace XM := hid_of (XM.out.below h XM.out.lt)
  replace XN := hid_of (XN.out.below h XN.out.lt)
  replace XP := hid_of (XP.out.below h XP.out.lt)
  replace BB := hid_of (BB.out.trans (h.mono BB.out.size))
  clear h
  obtain ⟨W5, hW5, bn, XQ, -⟩ := new1 u5 (.cells #[.int .i64 n1, .int .i64 n2, .string n3] 37)
  replace XQ := hid_of (show Bc W5 _ ((n1, n2), n3) from XQ)
  replace XL := hid_of ((XL.out.below bn).mono bn.size)
  replace XA := hid_of (XA.out.below bn XA.out.lt)
  replace XB := hid_of (XB.out.below bn XB.out.lt)
  replace XM := hid_of (XM.out.below bn XM.out.lt)
  replace XN := hid_of (XN.out.below bn XN.out.lt)
  replace XP := hid_of (XP.out.below bn XP.out.lt)
  replace BB := hid_of (BB.out.trans (bn.mono BB.out.size))
  clear bn
  go_wp2_with fail
  clear hW5
  generalize u5.heap.size = g5 at *
  refine (K6.out _ XL.out).mono ?_
  rintro e W ⟨rfl, h⟩
  replace XL := hid_of ((XL.out.below h).mono h.size)
  replace XA := hid_of (XA.out.below h XA.out.lt)
  replace XB := hid_of (XB.out.below h XB.out.lt)
  replace XM := hid_of (XM.out.below h XM.out.lt)
  replace XN := hid_of (XN.out.below h XN.out.lt)
  replace XP := hid_of (XP.out.below h XP.out.lt)
  replace XQ := hid_of (XQ.out.below h XQ.out.lt)
  replace BB := hid_of (BB.out.trans (h.mono BB.out.size))
  clear h
  go_wp2_with fail
  have HA : Hid (∀ w', Below W.heap.size W w' → _) := hid_of fun w' (hw' : Below W.heap.size W w') => (XA.out.below hw' XA.out.lt).cells
  have HM : Hid (∀ w', Below W.heap.size W w' → _) := hid_of fun w' (hw' : Below W.heap.size W w') => (XM.out.below hw' XM.out.lt).cells
  have HNN : Hid (∀ w', Below W.heap.size W w' → _) := hid_of fun w' (hw' : Below W.heap.size W w') => (XN.out.below hw' XN.out.lt).cells
  have HP : Hid (∀ w', Below W.heap.size W w' → _) := hid_of fun w' (hw' : Below W.heap.size W w') => (XP.out.below hw' XP.out.lt).cells
  have HQ : Hid (∀ w', Below W.heap.size W w' → _) := hid_of fun w' (hw' : Below W.heap.size W w') => (XQ.out.below hw' XQ.out.lt).cells
  refine wp_region_quiet (C := fun w' => Below W.heap.size W w') hmx (by kernel_rfl) ((Below.refl _ _).drew) ?_
  refine QW.out ?_
  repeat
    refine qw_step (fun K hK => ?_)
    go_simp
    first
      | (refine ⟨_, fun w' hw' => rfl, hK _ ?_⟩; clear hK K)
      | (refine ⟨_, fun w' hw' => (by simp only [HA.out w' hw', Result.andThen]; first | exact ⟨rfl, rfl⟩ | exact ⟨trivial, rfl⟩ | rfl), hK _ ?_⟩; clear hK K)
      | (refine ⟨_, fun w' hw' => (by simp only [HM.out w' hw', Result.andThen]; first | exact ⟨rfl, rfl⟩ | exact ⟨trivial, rfl⟩ | rfl), hK _ ?_⟩; clear hK K)
      | (refine ⟨_, fun w' hw' => (by simp only [HNN.out w' hw', Result.andThen]; first | exact ⟨rfl, rfl⟩ | exact ⟨trivial, rfl⟩ | rfl), hK _ ?_⟩; clear hK K)
      | (refine ⟨_, fun w' hw' => (by simp only [HP.out w' hw', Result.andThen]; first | exact ⟨rfl, rfl⟩ | exact ⟨trivial, rfl⟩ | rfl), hK _ ?_⟩; clear hK K)
      | (refine ⟨_, fun w' hw' => (by simp only [HQ.out w' hw', Result.andThen]; first | exact ⟨rfl, rfl⟩ | exact ⟨trivial, rfl⟩ | rfl), hK _ ?_⟩; clear hK K)
      | (refine ⟨_, fun w' hw' => (begunC_any _).mono (by rintro e w2 ⟨rfl, hB⟩; exact ⟨rfl, hw'.trans (hB.mono hw'.size)⟩), hK _ ?_⟩; clear hK K)
      | (refine ⟨_, fun w' hw' => (C1.out _).mono (by rintro e w2 ⟨rfl, hB⟩; exact ⟨rfl, hw'.trans (hB.mono hw'.size)⟩), hK _ ?_⟩; clear hK K)
      | (refine ⟨_, fun w' hw' => (C2.out _).mono (by rintro e w2 ⟨rfl, hB⟩; exact ⟨rfl, hw'.trans (hB.mono hw'.size)⟩), hK _ ?_⟩; clear hK K)
      | (refine hK _ ?_; clear hK K)
  refine qw_nil ?_
  intro wq hq
  go_wp2_with fail
  go_ret
  exact ⟨rfl, BB.out.trans (hq.mono BB.out.size)⟩

set_option maxRecDepth 100000 in
theorem lifted (os : Os) (started : os.Started) (H : Type) (enc : TypeId × Value → H) :
    ReturnsInHanded {} Try.checked os 7 .any (Rows.copiesTellSpec.pre6 enc Try.prog Try.f7 Rows.copiesTellRow.domain false) (Rows.copiesTellSpec.post enc Try.prog Try.f7 false true false false) := by
  refine returnsInHanded_of_change_sized (C := Try.checked) own started (by kernel_rfl) Try.func7
    (ChangeSpec.witness6 (enc := enc) (C := Try.checked) false ⟨#[], #[.agg #[.int .i64 0, .int .i64 0, .string ByteArray.empty], .agg #[.int .i64 0, .int .i64 0, .string ByteArray.empty], .slice none 0 0], []⟩ 8 (by kernel_rfl) (by kernel_rfl) (by kernel_rfl) (by kernel_rfl)) ?_
  intro W base args ds gs before hval0 hW hcnd hsz0 _
  have hsz : (DataW.weightsEach Try.prog (Try.f7.params.toList ++ Rows.copiesTellSpec.plain.varTypes Try.prog) (ds ++ gs)).all (· ≤ reachBytes) = true := hsz0
  clear hsz0
  have hval : ∀ (j : Nat) t v, Try.f7.params[j]? = some t → args[j]? = some v → Value.okWide Try.prog W .any base t v := hval0
  have hW' := hW
  obtain ⟨p, q, hA0, hV, rfl, hfz, hnd⟩ := hW
  have hA : DataW.TrodAll enc Try.prog W 0 (fun _ => true) true Try.f7.params.toList args.toList ds p := hA0
  rw [Try.params7] at hA hval hsz
  obtain ⟨v0, vs0, d0, ds0, p0, q0, hargs, rfl, rfl, h0, r0⟩ := trodAll_cons hA
  obtain ⟨v1, vs1, d1, ds1, p1, q1, rfl, rfl, rfl, h1, r1⟩ := trodAll_cons r0
  obtain ⟨v2, vs2, d2, ds2, p2, q2, rfl, rfl, rfl, h2, r2⟩ := trodAll_cons r1
  obtain ⟨rfl, rfl, rfl⟩ := trodAll_nil r2
  obtain rfl : args = #[v0, v1, v2] := by cases args; simp_all
  obtain ⟨rfl, rfl⟩ := trodVars_none hV
  have k0 := h0
  have lt0 : ∀ x ∈ p0, x.block < W.heap.size := by obtain ⟨m, hm⟩ := k0; exact DataW.trod_lt m _ _ _ hm
  obtain ⟨P0, rfl, y0a, y0b⟩ := open_cp (hval 0 37 v0 rfl rfl) h0
  have k1 := h1
  have lt1 : ∀ x ∈ p1, x.block < W.heap.size := by obtain ⟨m, hm⟩ := k1; exact DataW.trod_lt m _ _ _ hm
  obtain ⟨P1, rfl, y1a, y1b⟩ := open_cp (hval 1 37 v1 rfl rfl) h1
  obtain ⟨a2, len2, cap2, rfl⟩ := okWide_slice Try.underlying38 (hval 2 38 v2 rfl rfl)
  have k2 := h2
  have lt2 : ∀ x ∈ p2, x.block < W.heap.size := by obtain ⟨m, hm⟩ := k2; exact DataW.trod_lt m _ _ _ hm
  obtain ⟨A2, w2⟩ : ∃ A, Cs W.heap.size W (.slice a2 len2 cap2) A := by
    obtain ⟨fuel, hf⟩ := h2
    exact arg_cs hf hsz (j := 2) rfl rfl
  clear hA0 hval0
  refine (walk P0 P1 _ A2 W y0a y0b y1a y1b w2).mono fun e W' ⟨he, bel⟩ => ?_
  subst he
  exact ⟨_, rfl, _, _, _, [], _, [], hW', trodAll_mk1 (shut_bool Try.underlying4 _), (trodAll_cons_mk (Below.trod laidOut (by kernel_rfl) (of_decide_eq_true (by kernel_rfl)) k0 bel lt0) (trodAll_cons_mk (Below.trod laidOut (by kernel_rfl) (of_decide_eq_true (by kernel_rfl)) k1 bel lt1) (trodAll_cons_mk (Below.trod laidOut (by kernel_rfl) (of_decide_eq_true (by kernel_rfl)) k2 bel lt2) trodAll_mk0))), rfl, bel.frame _, fun h => by cases h⟩

theorem over : Rows.copiesTellRow.holds Try.pinned (OpenSpec.ofChange Rows.copiesTellSpec) :=
  OpenClaim.holds_of_wide 7 Try.f7 rfl rfl rfl rfl rfl rfl rfl ⟨rfl, rfl, rfl, rfl, rfl⟩ rfl rfl rfl rfl rfl (by kernel_rfl) Try.func7 (by kernel_rfl)
    (of_decide_eq_true (by kernel_rfl)) (by unfold Func.isWrapper; first | (rw [if_pos (by decide +kernel)]; kernel_rfl) | (rw [if_neg (by decide +kernel)]; exact ⟨rfl, rfl⟩))
    (fun os started H enc _ => lifted os started H enc)

/-- ████ THE STATEMENT ████ -/
theorem proved : Rows.CopiesTellSaid := over
#print axioms proved
end Go.Proofs.Ytcplbpnpcmgjfaa.copiesTell
