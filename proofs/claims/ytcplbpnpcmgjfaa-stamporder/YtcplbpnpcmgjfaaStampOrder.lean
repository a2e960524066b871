/- For every three stamps the statement StampOrder answers true: of two that differ just one is less, and who is less than one that is less than a third is less than that; with no condition. -/
import Derived.Test.YtcplbpnpcmgjfaaRows
import Derived.Test.YtcplbpnpcmgjfaaSd
import Derived.Test.YtcplbpnpcmgjfaaSg
import Derived.WalkKit
import Derived.ProofKit
import Derived.OpenShut
import Derived.ShutString
import Derived.ChangeOld
import Derived.Below
import Derived.SizedLaws
namespace Go.Proofs.Ytcplbpnpcmgjfaa.stampOrder
open Go.ChangeShapes Go.WideShapes Go.ChangeAt Go.RowKit
open Go.ChangeMaps (open_string shut_string)
set_option linter.unusedVariables false

theorem own : ownKnob Try.prog.godebug = none := by kernel_rfl
theorem laidOut : laidOutB Try.prog = true := by kernel_rfl

theorem ord (a b c : St) : (slt a b != slt b a) = decide (a ≠ b) ∧ (slt a b && slt b a) = false ∧ (slt a b = true → slt b c = true → slt a c = true) := by
  obtain ⟨t, u⟩ := a
  obtain ⟨s, v⟩ := b
  obtain ⟨r, x⟩ := c
  unfold slt
  simp only [Prod.mk.injEq, ne_eq]
  refine ⟨?_, ?_, ?_⟩
  · by_cases h1 : t < s ∨ t = s ∧ u < v
    · by_cases h2 : s < t ∨ s = t ∧ v < u
      · omega
      · rw [decide_eq_true h1, decide_eq_false h2, decide_eq_true (by omega)]; rfl
    · by_cases h2 : s < t ∨ s = t ∧ v < u
      · rw [decide_eq_false h1, decide_eq_true h2, decide_eq_true (by omega)]; rfl
      · rw [decide_eq_false h1, decide_eq_false h2, decide_eq_false (by omega)]; rfl
  · by_cases h1 : t < s ∨ t = s ∧ u < v
    · rw [decide_eq_false (p := s < t ∨ s = t ∧ v < u) (by omega), Bool.and_false]
    · rw [decide_eq_false h1]; rfl
  · intro h1 h2
    have h1 := of_decide_eq_true h1
    have h2 := of_decide_eq_true h2
    exact decide_eq_true (by omega)
set_option maxRecDepth 100000 in
set_option maxHeartbeats 4000000 in
theorem walk (a b c : St) (w : World) (_ : (Lit.int .i64 a.1).wf = true) (_ : (Lit.int .i64 a.2).wf = true) (_ : (Lit.int .i64 b.1).wf = true) (_ : (Lit.int .i64 b.2).wf = true) (_ : (Lit.int .i64 c.1).wf = true) (_ : (Lit.int .i64 c.2).wf = true) :
    Calls Try.prog 4 #[sv a, sv b, sv c] w fun e w' => e = .returned (.bool true) ∧ Below w.heap.size w w' := by
  have HO := hid_of (ord a b c)
  obtain ⟨a1, a2⟩ := a
  obtain ⟨b1, b2⟩ := b
  obtain ⟨c1, c2⟩ := c
  have HN : Hid (∀ t u : Int, sv (t, u) = .agg #[.int .i64 t, .int .i64 u]) := fun _ _ => rfl
  rw [HN.out, HN.out, HN.out]
  have b0 := (below_new w (.cells #[.int .i64 a1, .int .i64 a2] 23)).trans (((below_new _ (.cells #[.int .i64 b1, .int .i64 b2] 23)).trans ((below_new _ (.cells #[.int .i64 c1, .int .i64 c2] 23)).mono (below_new _ _).size)).mono (below_new _ _).size)
  have BB := hid_of b0
  have e1 := size_new w (.cells #[.int .i64 a1, .int .i64 a2] 23)
  have e2 := size_new (w.alloc (.cells #[.int .i64 a1, .int .i64 a2] 23)) (.cells #[.int .i64 b1, .int .i64 b2] 23)
  have XA := hid_of (show Bs _ w.heap.size (a1, a2) from heap_old (heap_old (heap_new w (.cells #[.int .i64 a1, .int .i64 a2] 23)) (.cells #[.int .i64 b1, .int .i64 b2] 23)) (.cells #[.int .i64 c1, .int .i64 c2] 23))
  have XB := hid_of (show Bs _ (w.heap.size + 1) (b1, b2) from heap_old (heap_at (w.alloc (.cells #[.int .i64 a1, .int .i64 a2] 23)) (.cells #[.int .i64 b1, .int .i64 b2] 23) e1) (.cells #[.int .i64 c1, .int .i64 c2] 23))
  have XC := hid_of (show Bs _ (w.heap.size + 1 + 1) (c1, c2) from heap_at ((w.alloc (.cells #[.int .i64 a1, .int .i64 a2] 23)).alloc (.cells #[.int .i64 b1, .int .i64 b2] 23)) (.cells #[.int .i64 c1, .int .i64 c2] 23) (by rw [e2, e1]))
  clear b0 e1 e2
  have hmx : Try.prog.follows Departure.mixedOrders = true := by kernel_rfl
  go_enter Try.func4, Try.ntmps4
  go_wp2_with fail
  generalize ((w.alloc (.cells #[.int .i64 a1, .int .i64 a2] 23)).alloc (.cells #[.int .i64 b1, .int .i64 b2] 23)).alloc (.cells #[.int .i64 c1, .int .i64 c2] 23) = W at *
  have HA : Hid (∀ w', Below W.heap.size W w' → _) := hid_of fun w' (hw' : Below W.heap.size W w') => (XA.out.below hw' XA.out.lt).cells
  have HB : Hid (∀ w', Below W.heap.size W w' → _) := hid_of fun w' (hw' : Below W.heap.size W w') => (XB.out.below hw' XB.out.lt).cells
  refine wp_region_quiet (C := fun w' => Below W.heap.size W w') hmx (by kernel_rfl) ((Below.refl _ _).drew) ?_
  repeat
    refine wpQuiet_step (fun K hK => ?_)
    go_simp
    first
      | (refine ⟨_, fun w' hw' => rfl, hK _ ?_⟩; clear hK K)
      | (refine ⟨_, fun w' hw' => (by simp only [HA.out w' hw', Result.andThen]; first | exact ⟨rfl, rfl⟩ | exact ⟨trivial, rfl⟩ | rfl), hK _ ?_⟩; clear hK K)
      | (refine ⟨_, fun w' hw' => (by simp only [HB.out w' hw', Result.andThen]; first | exact ⟨rfl, rfl⟩ | exact ⟨trivial, rfl⟩ | rfl), hK _ ?_⟩; clear hK K)
      | (refine ⟨_, fun w' hw' => (lessB _ _ _ _ _).mono (by rintro e w2 ⟨rfl, hB⟩; exact ⟨rfl, hw'.trans (hB.mono hw'.size)⟩), hK _ ?_⟩; clear hK K)
      | (refine hK _ ?_; clear hK K)
  refine wpQuiet_nil ?_
  intro wq hq
  have XA := hid_of (XA.out.below hq XA.out.lt)
  have XB := hid_of (XB.out.below hq XB.out.lt)
  have XC := hid_of (XC.out.below hq XC.out.lt)
  have BB := hid_of (BB.out.trans (hq.mono BB.out.size))
  clear hq HA HB
  go_wp2_with fail
  refine (begunS_any _).mono ?_
  rintro e V ⟨rfl, hq⟩
  have XA := hid_of (XA.out.below hq XA.out.lt)
  have XB := hid_of (XB.out.below hq XB.out.lt)
  have XC := hid_of (XC.out.below hq XC.out.lt)
  have BB := hid_of (BB.out.trans (hq.mono BB.out.size))
  clear hq
  have HL1 := hid_of (lessB b1 b2 c1 c2)
  have HL2 := hid_of (lessB a1 a2 c1 c2)
  generalize slt (a1, a2) (b1, b2) = x at *
  generalize slt (b1, b2) (a1, a2) = y at *
  generalize slt (b1, b2) (c1, c2) = z at *
  generalize slt (a1, a2) (c1, c2) = t at *
  obtain ⟨o1, o2, o3⟩ := HO.out
  clear HO
  obtain ⟨ka1, ka2⟩ := XA.out.cells
  obtain ⟨kb1, kb2⟩ := XB.out.cells
  obtain ⟨kc1, kc2⟩ := XC.out.cells
  have HO3 := hid_of o3
  clear o3
  cases x
  · cases y
    · have h : (a1, a2) = (b1, b2) := by simpa using o1
      obtain ⟨rfl, rfl⟩ := Prod.mk.inj h
      clear o1 o2 h
      go_wp2_with fail
      go_ret
      exact ⟨rfl, BB.out⟩
    · have h : ¬ (a1 = b1 ∧ a2 = b2) := by simp at o1; omega
      clear o1 o2
      by_cases e : a1 = b1
      · subst e
        have t2 : (a2 == b2) = false := beq_eq_false_iff_ne.2 (fun e => h ⟨rfl, e⟩)
        clear h
        go_wp2_with fail
        go_ret
        exact ⟨rfl, BB.out⟩
      · have t1 : (a1 == b1) = false := beq_eq_false_iff_ne.2 e
        clear h e
        go_wp2_with fail
        go_ret
        exact ⟨rfl, BB.out⟩
  · cases y
    · have h : ¬ (a1 = b1 ∧ a2 = b2) := by simp at o1; omega
      clear o1 o2
      by_cases e : a1 = b1
      · subst e
        have t2 : (a2 == b2) = false := beq_eq_false_iff_ne.2 (fun e => h ⟨rfl, e⟩)
        clear h
        go_wp2_with fail
        refine (HL1.out _).mono ?_
        rintro e V2 ⟨rfl, hq⟩
        have XA := hid_of (XA.out.below hq XA.out.lt)
        have XC := hid_of (XC.out.below hq XC.out.lt)
        have BB := hid_of (BB.out.trans (hq.mono BB.out.size))
        clear hq ka1 ka2 kb1 kb2 kc1 kc2
        obtain ⟨ka1, ka2⟩ := XA.out.cells
        obtain ⟨kc1, kc2⟩ := XC.out.cells
        cases z
        · go_wp2_with fail
          go_ret
          exact ⟨rfl, BB.out⟩
        · obtain rfl : t = true := by simpa using HO3.out
          go_wp2_with fail
          refine (HL2.out _).mono ?_
          rintro e V3 ⟨rfl, hq⟩
          have BB := hid_of (BB.out.trans (hq.mono BB.out.size))
          clear hq
          go_wp2_with fail
          go_ret
          exact ⟨rfl, BB.out⟩
      · have t1 : (a1 == b1) = false := beq_eq_false_iff_ne.2 e
        clear h e
        go_wp2_with fail
        refine (HL1.out _).mono ?_
        rintro e V2 ⟨rfl, hq⟩
        have XA := hid_of (XA.out.below hq XA.out.lt)
        have XC := hid_of (XC.out.below hq XC.out.lt)
        have BB := hid_of (BB.out.trans (hq.mono BB.out.size))
        clear hq ka1 ka2 kb1 kb2 kc1 kc2
        obtain ⟨ka1, ka2⟩ := XA.out.cells
        obtain ⟨kc1, kc2⟩ := XC.out.cells
        cases z
        · go_wp2_with fail
          go_ret
          exact ⟨rfl, BB.out⟩
        · obtain rfl : t = true := by simpa using HO3.out
          go_wp2_with fail
          refine (HL2.out _).mono ?_
          rintro e V3 ⟨rfl, hq⟩
          have BB := hid_of (BB.out.trans (hq.mono BB.out.size))
          clear hq
          go_wp2_with fail
          go_ret
          exact ⟨rfl, BB.out⟩
    · simp at o2

set_option maxRecDepth 100000 in
theorem lifted (os : Os) (started : os.Started) (H : Type) (enc : TypeId × Value → H) :
    ReturnsInHanded {} Try.checked os 4 .any (Rows.stampOrderSpec.pre6 enc Try.prog Try.f4 Rows.stampOrderRow.domain false) (Rows.stampOrderSpec.post enc Try.prog Try.f4 false true false false) := by
  refine returnsInHanded_of_change_sized (C := Try.checked) own started (by kernel_rfl) Try.func4
    (ChangeSpec.witness6 (enc := enc) (C := Try.checked) false ⟨#[], #[.agg #[.int .i64 0, .int .i64 0], .agg #[.int .i64 0, .int .i64 0], .agg #[.int .i64 0, .int .i64 0]], []⟩ 8 (by kernel_rfl) (by kernel_rfl) (by kernel_rfl) (by kernel_rfl)) ?_
  intro W base args ds gs before hval0 hW hcnd hsz0 _
  have hsz : (DataW.weightsEach Try.prog (Try.f4.params.toList ++ Rows.stampOrderSpec.plain.varTypes Try.prog) (ds ++ gs)).all (· ≤ reachBytes) = true := hsz0
  clear hsz0
  have hval : ∀ (j : Nat) t v, Try.f4.params[j]? = some t → args[j]? = some v → Value.okWide Try.prog W .any base t v := hval0
  have hW' := hW
  obtain ⟨p, q, hA0, hV, rfl, hfz, hnd⟩ := hW
  have hA : DataW.TrodAll enc Try.prog W 0 (fun _ => true) true Try.f4.params.toList args.toList ds p := hA0
  rw [Try.params4] at hA hval hsz
  obtain ⟨v0, vs0, d0, ds0, p0, q0, hargs, rfl, rfl, h0, r0⟩ := trodAll_cons hA
  obtain ⟨v1, vs1, d1, ds1, p1, q1, rfl, rfl, rfl, h1, r1⟩ := trodAll_cons r0
  obtain ⟨v2, vs2, d2, ds2, p2, q2, rfl, rfl, rfl, h2, r2⟩ := trodAll_cons r1
  obtain ⟨rfl, rfl, rfl⟩ := trodAll_nil r2
  obtain rfl : args = #[v0, v1, v2] := by cases args; simp_all
  obtain ⟨rfl, rfl⟩ := trodVars_none hV
  have k0 := h0
  have lt0 : ∀ x ∈ p0, x.block < W.heap.size := by obtain ⟨m, hm⟩ := k0; exact DataW.trod_lt m _ _ _ hm
  obtain ⟨P0, rfl, y0a, y0b⟩ := open_st (hval 0 23 v0 rfl rfl) h0
  have k1 := h1
  have lt1 : ∀ x ∈ p1, x.block < W.heap.size := by obtain ⟨m, hm⟩ := k1; exact DataW.trod_lt m _ _ _ hm
  obtain ⟨P1, rfl, y1a, y1b⟩ := open_st (hval 1 23 v1 rfl rfl) h1
  have k2 := h2
  have lt2 : ∀ x ∈ p2, x.block < W.heap.size := by obtain ⟨m, hm⟩ := k2; exact DataW.trod_lt m _ _ _ hm
  obtain ⟨P2, rfl, y2a, y2b⟩ := open_st (hval 2 23 v2 rfl rfl) h2
  clear hA0 hval0
  refine (walk P0 P1 P2 W y0a y0b y1a y1b y2a y2b).mono fun e W' ⟨he, bel⟩ => ?_
  subst he
  exact ⟨_, rfl, _, _, _, [], _, [], hW', trodAll_mk1 (shut_bool Try.underlying4 _), (trodAll_cons_mk (Below.trod laidOut (by kernel_rfl) (of_decide_eq_true (by kernel_rfl)) k0 bel lt0) (trodAll_cons_mk (Below.trod laidOut (by kernel_rfl) (of_decide_eq_true (by kernel_rfl)) k1 bel lt1) (trodAll_cons_mk (Below.trod laidOut (by kernel_rfl) (of_decide_eq_true (by kernel_rfl)) k2 bel lt2) trodAll_mk0))), rfl, bel.frame _, fun h => by cases h⟩

theorem over : Rows.stampOrderRow.holds Try.pinned (OpenSpec.ofChange Rows.stampOrderSpec) :=
  OpenClaim.holds_of_wide 4 Try.f4 rfl rfl rfl rfl rfl rfl rfl ⟨rfl, rfl, rfl, rfl, rfl⟩ rfl rfl rfl rfl rfl (by kernel_rfl) Try.func4 (by kernel_rfl)
    (of_decide_eq_true (by kernel_rfl)) (by unfold Func.isWrapper; first | (rw [if_pos (by decide +kernel)]; kernel_rfl) | (rw [if_neg (by decide +kernel)]; exact ⟨rfl, rfl⟩))
    (fun os started H enc _ => lifted os started H enc)

/-- ████ THE STATEMENT ████ -/
theorem proved : Rows.StampOrderSaid := over
#print axioms proved
end Go.Proofs.Ytcplbpnpcmgjfaa.stampOrder
