/- For every list of stamps and all numbers the statement StampNext answers true: the next stamp is right and above all of which it is, and two of different nodes are never the same; with no condition. -/
import Derived.Test.YtcplbpnpcmgjfaaRows
import Derived.Test.YtcplbpnpcmgjfaaSd
import Derived.Test.YtcplbpnpcmgjfaaSg
import Derived.Test.YtcplbpnpcmgjfaaSm
import Derived.WalkKit
import Derived.ProofKit
import Derived.OpenShut
import Derived.ShutString
import Derived.ChangeOld
import Derived.Below
import Derived.SizedLaws
namespace Go.Proofs.Ytcplbpnpcmgjfaa.stampNext
open Go.ChangeShapes Go.WideShapes Go.ChangeAt Go.RowKit
open Go.ChangeMaps (open_string shut_string)
set_option linter.unusedVariables false

theorem own : ownKnob Try.prog.godebug = none := by kernel_rfl
theorem laidOut : laidOutB Try.prog = true := by kernel_rfl

/-- what is told of the two next ones -/
def NxL (L : List St) (a b _i x1 x2 y1 y2 : Int) : Prop := (x1, x2) = ((mxV L).1 + 1, a) ∧ (nxE L b = 0 → (y1, y2) = ((mxV L).1 + 1, b))
set_option maxRecDepth 100000 in
set_option maxHeartbeats 4000000 in
theorem walkA (v : Value) (L : List St) (a b i : Int) (w : World) (hyp : nxE L a ≠ 0) (hL : Ss w.heap.size w v L) (_ : (Lit.int .i64 a).wf = true) (_ : (Lit.int .i64 b).wf = true) (_ : (Lit.int .i64 i).wf = true) :
    Calls Try.prog 6 #[v, .int .i64 a, .int .i64 b, .int .i64 i] w fun e w' => e = .returned (.bool true) ∧ Below w.heap.size w w' := by
  have HL := hid_of hL
  obtain ⟨ao, c, rfl⟩ := hL.shape
  clear hL
  have HN : Hid (∀ p : St, sv p = .agg #[.int .i64 p.1, .int .i64 p.2]) := fun _ => rfl
  have hmx : Try.prog.follows Departure.mixedOrders = true := by kernel_rfl
  go_enter Try.func6, Try.ntmps6
  go_wp2_with fail
  refine (next_any _ L a _ HL.out).mono ?_
  rintro e w1 ⟨rfl, h1⟩
  rw [HN.out]
  obtain ⟨⟨x1, x2⟩, hx⟩ : ∃ p, nxV L a = p := ⟨_, rfl⟩
  have HX := hid_of hx
  rw [hx]
  clear hx
  have bn := below_new w1 (.cells #[.int .i64 x1, .int .i64 x2] 23)
  have X2 := hid_of (show Bs _ _ (x1, x2) from heap_new w1 (.cells #[.int .i64 x1, .int .i64 x2] 23))
  have B2 := hid_of (h1.trans (bn.mono h1.size))
  clear h1 bn
  go_wp2_with fail
  generalize w1.alloc (.cells #[.int .i64 x1, .int .i64 x2] 23) = W2 at *
  refine (next_any _ L b _ ((HL.out.below B2.out).mono B2.out.size)).mono ?_
  rintro e w3 ⟨rfl, h3⟩
  rw [HN.out]
  obtain ⟨⟨y1, y2⟩, hy⟩ : ∃ p, nxV L b = p := ⟨_, rfl⟩
  have HY := hid_of hy
  rw [hy]
  clear hy
  have bn := below_new w3 (.cells #[.int .i64 y1, .int .i64 y2] 23)
  have Y4 := hid_of (show Bs _ _ (y1, y2) from heap_new w3 (.cells #[.int .i64 y1, .int .i64 y2] 23))
  have X4 := hid_of ((X2.out.below h3 X2.out.lt).below bn (by have := X2.out.lt; have := h3.size; omega))
  have B4 := hid_of ((B2.out.trans (h3.mono B2.out.size)).trans (bn.mono (B2.out.trans (h3.mono B2.out.size)).size))
  clear h3 bn X2 B2
  go_wp2_with fail
  generalize w3.alloc (.cells #[.int .i64 y1, .int .i64 y2] 23) = W4 at *
  generalize w1.heap.size = gx at *
  generalize w3.heap.size = gy at *
  clear w1 W2 w3
  refine (begunS_any _).mono ?_
  rintro e W ⟨rfl, h⟩
  have XX := hid_of (X4.out.below h X4.out.lt)
  have YY := hid_of (Y4.out.below h Y4.out.lt)
  have BB := hid_of (B4.out.trans (h.mono B4.out.size))
  have HL := hid_of (HL.out.below BB.out)
  clear h X4 Y4 B4 W4
  have ce := hyp
  obtain ⟨rfl, rfl⟩ := Prod.mk.inj (HX.out.symm.trans (nxV_no ce))
  have t1 : (nxE L a != 0) = true := bne_iff_ne.2 ce
  generalize nxE L a = xe at *
  clear ce HX
  obtain ⟨ka1, ka2⟩ := XX.out.cells
  go_wp2_with fail
  go_ret
  exact ⟨rfl, BB.out⟩
set_option maxRecDepth 100000 in
set_option maxHeartbeats 4000000 in
theorem walkB (v : Value) (L : List St) (a b i : Int) (w : World) (hyp : nxE L a = 0 ∧ 0 ≤ i ∧ i < (L.length : Int)) (hL : Ss w.heap.size w v L) (_ : (Lit.int .i64 a).wf = true) (_ : (Lit.int .i64 b).wf = true) (_ : (Lit.int .i64 i).wf = true) :
    Calls Try.prog 6 #[v, .int .i64 a, .int .i64 b, .int .i64 i] w fun e w' => e = .returned (.bool true) ∧ Below w.heap.size w w' := by
  have HL := hid_of hL
  obtain ⟨ao, c, rfl⟩ := hL.shape
  clear hL
  have HN : Hid (∀ p : St, sv p = .agg #[.int .i64 p.1, .int .i64 p.2]) := fun _ => rfl
  have hmx : Try.prog.follows Departure.mixedOrders = true := by kernel_rfl
  go_enter Try.func6, Try.ntmps6
  go_wp2_with fail
  refine (next_any _ L a _ HL.out).mono ?_
  rintro e w1 ⟨rfl, h1⟩
  rw [HN.out]
  obtain ⟨⟨x1, x2⟩, hx⟩ : ∃ p, nxV L a = p := ⟨_, rfl⟩
  have HX := hid_of hx
  rw [hx]
  clear hx
  have bn := below_new w1 (.cells #[.int .i64 x1, .int .i64 x2] 23)
  have X2 := hid_of (show Bs _ _ (x1, x2) from heap_new w1 (.cells #[.int .i64 x1, .int .i64 x2] 23))
  have B2 := hid_of (h1.trans (bn.mono h1.size))
  clear h1 bn
  go_wp2_with fail
  generalize w1.alloc (.cells #[.int .i64 x1, .int .i64 x2] 23) = W2 at *
  refine (next_any _ L b _ ((HL.out.below B2.out).mono B2.out.size)).mono ?_
  rintro e w3 ⟨rfl, h3⟩
  rw [HN.out]
  obtain ⟨⟨y1, y2⟩, hy⟩ : ∃ p, nxV L b = p := ⟨_, rfl⟩
  have HY := hid_of hy
  rw [hy]
  clear hy
  have bn := below_new w3 (.cells #[.int .i64 y1, .int .i64 y2] 23)
  have Y4 := hid_of (show Bs _ _ (y1, y2) from heap_new w3 (.cells #[.int .i64 y1, .int .i64 y2] 23))
  have X4 := hid_of ((X2.out.below h3 X2.out.lt).below bn (by have := X2.out.lt; have := h3.size; omega))
  have B4 := hid_of ((B2.out.trans (h3.mono B2.out.size)).trans (bn.mono (B2.out.trans (h3.mono B2.out.size)).size))
  clear h3 bn X2 B2
  go_wp2_with fail
  generalize w3.alloc (.cells #[.int .i64 y1, .int .i64 y2] 23) = W4 at *
  generalize w1.heap.size = gx at *
  generalize w3.heap.size = gy at *
  clear w1 W2 w3
  refine (begunS_any _).mono ?_
  rintro e W ⟨rfl, h⟩
  have XX := hid_of (X4.out.below h X4.out.lt)
  have YY := hid_of (Y4.out.below h Y4.out.lt)
  have BB := hid_of (B4.out.trans (h.mono B4.out.size))
  have HL := hid_of (HL.out.below BB.out)
  clear h X4 Y4 B4 W4
  have ce := hyp.1
  have ci := hyp.2
  clear hyp
  have HK : Hid (sck (x1, x2) = 0) := hid_of (by rw [← HX.out]; exact nx_ok ce)
  have HA := hid_of (fun (k : Nat) (h : k < L.length) => nx_above ce h)
  have HS := hid_of (fun k => @nx_same L a b ce k)
  have HX2 : Hid ((x1, x2) = ((mxV L).1 + 1, a)) := hid_of (by rw [← HX.out]; exact nxV_yes ce)
  have HY2 : Hid (nxE L b = 0 → (y1, y2) = ((mxV L).1 + 1, b)) := hid_of (fun k => by rw [← HY.out]; exact nxV_yes k)
  try rw [ce]
  rw [HX.out] at HA
  have HCk : Hid (∀ w, Calls Try.prog 14 #[.agg #[.int .i64 x1, .int .i64 x2]] w fun e w' => e = .returned (.int .i64 0) ∧ Below w.heap.size w w') := hid_of (fun w => by have h := checkB x1 x2 w; rw [HK.out] at h; exact h)
  clear HK HX ce
  have LST : Hid (NxL L a b i x1 x2 y1 y2) := hid_of ⟨HX2.out, HY2.out⟩
  clear HX2 HY2 HY HS
  obtain ⟨k, rfl⟩ : ∃ k : Nat, i = k := ⟨i.toNat, by omega⟩
  have hk : k < L.length := by omega
  have hk2 : (k : Int) < L.length := ci.2
  obtain ⟨bl, off, rfl, hx, hy⟩ := HL.out.at hk
  obtain ⟨⟨p1, p2⟩, hp⟩ : ∃ p, L[k]?.getD (0, 0) = p := ⟨_, rfl⟩
  have HLs : Hid (∀ w, Calls Try.prog 16 #[.agg #[.int .i64 p1, .int .i64 p2], .agg #[.int .i64 x1, .int .i64 x2]] w fun e w' => e = .returned (.bool true) ∧ Below w.heap.size w w') := hid_of (fun w => by have h := lessB p1 p2 x1 x2 w; rw [← hp, HA.out k hk] at h; exact h)
  rw [hp] at hx hy
  clear hp HA
  have HC : Hid (∀ w', Below W.heap.size W w' → w'.cell? ⟨bl, off + k * 2, none⟩ = some (.int .i64 p1) ∧ w'.cell? ⟨bl, off + k * 2 + 1, none⟩ = some (.int .i64 p2)) := hid_of (fun w' hw' => ⟨(hw'.cell (p := ⟨bl, off + k * 2, none⟩) (cell_lt hx)).trans hx, (hw'.cell (p := ⟨bl, off + k * 2 + 1, none⟩) (cell_lt hy)).trans hy⟩)
  have HD : Hid (∀ w', Below W.heap.size W w' → w'.cell? ⟨gx, 0, none⟩ = some (.int .i64 x1) ∧ w'.cell? ⟨gx, 1, none⟩ = some (.int .i64 x2)) := hid_of fun w' (hw' : Below W.heap.size W w') => (XX.out.below hw' XX.out.lt).cells
  clear hx hy ci
  go_wp2_with fail
  refine wp_region_quiet (C := fun w' => Below W.heap.size W w') hmx (by kernel_rfl) ((Below.refl _ _).drew) ?_
  repeat
    refine wpQuiet_step (fun K hK => ?_)
    go_simp
    first
      | (refine ⟨_, fun w' hw' => rfl, hK _ ?_⟩; clear hK K)
      | (refine ⟨_, fun w' hw' => (by simp only [HC.out w' hw', Result.andThen]; first | exact ⟨rfl, rfl⟩ | exact ⟨trivial, rfl⟩ | rfl), hK _ ?_⟩; clear hK K)
      | (refine ⟨_, fun w' hw' => (by simp only [HD.out w' hw', Result.andThen]; first | exact ⟨rfl, rfl⟩ | exact ⟨trivial, rfl⟩ | rfl), hK _ ?_⟩; clear hK K)
      | (refine ⟨_, fun w' hw' => (HLs.out _).mono (by rintro e w2 ⟨rfl, hB⟩; exact ⟨rfl, hw'.trans (hB.mono hw'.size)⟩), hK _ ?_⟩; clear hK K)
      | (refine ⟨_, fun w' hw' => (HCk.out _).mono (by rintro e w2 ⟨rfl, hB⟩; exact ⟨rfl, hw'.trans (hB.mono hw'.size)⟩), hK _ ?_⟩; clear hK K)
      | (refine hK _ ?_; clear hK K)
  refine wpQuiet_nil ?_
  intro wq hq
  have XX := hid_of (XX.out.below hq XX.out.lt)
  have YY := hid_of (YY.out.below hq YY.out.lt)
  have BB := hid_of (BB.out.trans (hq.mono BB.out.size))
  clear hq
  obtain ⟨ka1, ka2⟩ := XX.out.cells
  obtain ⟨kb1, kb2⟩ := YY.out.cells
  clear XX YY
  by_cases cf : nxE L b = 0
  · obtain ⟨e1, e2⟩ := Prod.mk.inj LST.out.1
    obtain ⟨e3, e4⟩ := Prod.mk.inj (LST.out.2 cf)
    rw [cf]
    clear LST cf
    obtain rfl : x1 = y1 := e1.trans e3.symm
    subst e2 e4
    clear e1 e3
    by_cases cab : x2 = y2
    · subst cab
      go_wp2_with fail
      go_ret
      exact ⟨rfl, BB.out⟩
    · have t2 : (x2 == y2) = false := beq_eq_false_iff_ne.2 cab
      clear cab
      go_wp2_with fail
      go_ret
      exact ⟨rfl, BB.out⟩
  · have t2 : (nxE L b != 0) = true := bne_iff_ne.2 cf
    generalize nxE L b = ye at *
    clear cf LST
    go_wp2_with fail
    go_ret
    exact ⟨rfl, BB.out⟩
set_option maxRecDepth 100000 in
set_option maxHeartbeats 4000000 in
theorem walkC (v : Value) (L : List St) (a b i : Int) (w : World) (hyp : nxE L a = 0 ∧ 0 ≤ i ∧ ¬ i < (L.length : Int)) (hL : Ss w.heap.size w v L) (_ : (Lit.int .i64 a).wf = true) (_ : (Lit.int .i64 b).wf = true) (_ : (Lit.int .i64 i).wf = true) :
    Calls Try.prog 6 #[v, .int .i64 a, .int .i64 b, .int .i64 i] w fun e w' => e = .returned (.bool true) ∧ Below w.heap.size w w' := by
  have HL := hid_of hL
  obtain ⟨ao, c, rfl⟩ := hL.shape
  clear hL
  have HN : Hid (∀ p : St, sv p = .agg #[.int .i64 p.1, .int .i64 p.2]) := fun _ => rfl
  have hmx : Try.prog.follows Departure.mixedOrders = true := by kernel_rfl
  go_enter Try.func6, Try.ntmps6
  go_wp2_with fail
  refine (next_any _ L a _ HL.out).mono ?_
  rintro e w1 ⟨rfl, h1⟩
  rw [HN.out]
  obtain ⟨⟨x1, x2⟩, hx⟩ : ∃ p, nxV L a = p := ⟨_, rfl⟩
  have HX := hid_of hx
  rw [hx]
  clear hx
  have bn := below_new w1 (.cells #[.int .i64 x1, .int .i64 x2] 23)
  have X2 := hid_of (show Bs _ _ (x1, x2) from heap_new w1 (.cells #[.int .i64 x1, .int .i64 x2] 23))
  have B2 := hid_of (h1.trans (bn.mono h1.size))
  clear h1 bn
  go_wp2_with fail
  generalize w1.alloc (.cells #[.int .i64 x1, .int .i64 x2] 23) = W2 at *
  refine (next_any _ L b _ ((HL.out.below B2.out).mono B2.out.size)).mono ?_
  rintro e w3 ⟨rfl, h3⟩
  rw [HN.out]
  obtain ⟨⟨y1, y2⟩, hy⟩ : ∃ p, nxV L b = p := ⟨_, rfl⟩
  have HY := hid_of hy
  rw [hy]
  clear hy
  have bn := below_new w3 (.cells #[.int .i64 y1, .int .i64 y2] 23)
  have Y4 := hid_of (show Bs _ _ (y1, y2) from heap_new w3 (.cells #[.int .i64 y1, .int .i64 y2] 23))
  have X4 := hid_of ((X2.out.below h3 X2.out.lt).below bn (by have := X2.out.lt; have := h3.size; omega))
  have B4 := hid_of ((B2.out.trans (h3.mono B2.out.size)).trans (bn.mono (B2.out.trans (h3.mono B2.out.size)).size))
  clear h3 bn X2 B2
  go_wp2_with fail
  generalize w3.alloc (.cells #[.int .i64 y1, .int .i64 y2] 23) = W4 at *
  generalize w1.heap.size = gx at *
  generalize w3.heap.size = gy at *
  clear w1 W2 w3
  refine (begunS_any _).mono ?_
  rintro e W ⟨rfl, h⟩
  have XX := hid_of (X4.out.below h X4.out.lt)
  have YY := hid_of (Y4.out.below h Y4.out.lt)
  have BB := hid_of (B4.out.trans (h.mono B4.out.size))
  have HL := hid_of (HL.out.below BB.out)
  clear h X4 Y4 B4 W4
  have ce := hyp.1
  have c0 := hyp.2.1
  have c1 := hyp.2.2
  clear hyp
  have HK : Hid (sck (x1, x2) = 0) := hid_of (by rw [← HX.out]; exact nx_ok ce)
  have HA := hid_of (fun (k : Nat) (h : k < L.length) => nx_above ce h)
  have HS := hid_of (fun k => @nx_same L a b ce k)
  have HX2 : Hid ((x1, x2) = ((mxV L).1 + 1, a)) := hid_of (by rw [← HX.out]; exact nxV_yes ce)
  have HY2 : Hid (nxE L b = 0 → (y1, y2) = ((mxV L).1 + 1, b)) := hid_of (fun k => by rw [← HY.out]; exact nxV_yes k)
  try rw [ce]
  rw [HX.out] at HA
  have HCk : Hid (∀ w, Calls Try.prog 14 #[.agg #[.int .i64 x1, .int .i64 x2]] w fun e w' => e = .returned (.int .i64 0) ∧ Below w.heap.size w w') := hid_of (fun w => by have h := checkB x1 x2 w; rw [HK.out] at h; exact h)
  clear HK HX ce
  have LST : Hid (NxL L a b i x1 x2 y1 y2) := hid_of ⟨HX2.out, HY2.out⟩
  clear HX2 HY2 HY HS
  clear HA
  have HD : Hid (∀ w', Below W.heap.size W w' → w'.cell? ⟨gx, 0, none⟩ = some (.int .i64 x1) ∧ w'.cell? ⟨gx, 1, none⟩ = some (.int .i64 x2)) := hid_of fun w' (hw' : Below W.heap.size W w') => (XX.out.below hw' XX.out.lt).cells
  have z1 : decide (i < (L.length : Int)) = false := decide_eq_false (by omega)
  have z0 : decide (0 ≤ i) = true := decide_eq_true (by omega)
  go_wp2_with fail
  refine wp_region_quiet (C := fun w' => Below W.heap.size W w') hmx (by kernel_rfl) ((Below.refl _ _).drew) ?_
  repeat
    refine wpQuiet_step (fun K hK => ?_)
    go_simp
    first
      | (refine ⟨_, fun w' hw' => rfl, hK _ ?_⟩; clear hK K)
      | (refine ⟨_, fun w' hw' => (by simp only [HD.out w' hw', Result.andThen]; first | exact ⟨rfl, rfl⟩ | exact ⟨trivial, rfl⟩ | rfl), hK _ ?_⟩; clear hK K)
      | (refine ⟨_, fun w' hw' => (HCk.out _).mono (by rintro e w2 ⟨rfl, hB⟩; exact ⟨rfl, hw'.trans (hB.mono hw'.size)⟩), hK _ ?_⟩; clear hK K)
      | (refine hK _ ?_; clear hK K)
  refine wpQuiet_nil ?_
  intro wq hq
  have XX := hid_of (XX.out.below hq XX.out.lt)
  have YY := hid_of (YY.out.below hq YY.out.lt)
  have BB := hid_of (BB.out.trans (hq.mono BB.out.size))
  clear hq
  obtain ⟨ka1, ka2⟩ := XX.out.cells
  obtain ⟨kb1, kb2⟩ := YY.out.cells
  clear XX YY
  by_cases cf : nxE L b = 0
  · obtain ⟨e1, e2⟩ := Prod.mk.inj LST.out.1
    obtain ⟨e3, e4⟩ := Prod.mk.inj (LST.out.2 cf)
    rw [cf]
    clear LST cf
    obtain rfl : x1 = y1 := e1.trans e3.symm
    subst e2 e4
    clear e1 e3
    by_cases cab : x2 = y2
    · subst cab
      go_wp2_with fail
      go_ret
      exact ⟨rfl, BB.out⟩
    · have t2 : (x2 == y2) = false := beq_eq_false_iff_ne.2 cab
      clear cab
      go_wp2_with fail
      go_ret
      exact ⟨rfl, BB.out⟩
  · have t2 : (nxE L b != 0) = true := bne_iff_ne.2 cf
    generalize nxE L b = ye at *
    clear cf LST
    go_wp2_with fail
    go_ret
    exact ⟨rfl, BB.out⟩
set_option maxRecDepth 100000 in
set_option maxHeartbeats 4000000 in
theorem walkD (v : Value) (L : List St) (a b i : Int) (w : World) (hyp : nxE L a = 0 ∧ ¬ 0 ≤ i) (hL : Ss w.heap.size w v L) (_ : (Lit.int .i64 a).wf = true) (_ : (Lit.int .i64 b).wf = true) (_ : (Lit.int .i64 i).wf = true) :
    Calls Try.prog 6 #[v, .int .i64 a, .int .i64 b, .int .i64 i] w fun e w' => e = .returned (.bool true) ∧ Below w.heap.size w w' := by
  have HL := hid_of hL
  obtain ⟨ao, c, rfl⟩ := hL.shape
  clear hL
  have HN : Hid (∀ p : St, sv p = .agg #[.int .i64 p.1, .int .i64 p.2]) := fun _ => rfl
  have hmx : Try.prog.follows Departure.mixedOrders = true := by kernel_rfl
  go_enter Try.func6, Try.ntmps6
  go_wp2_with fail
  refine (next_any _ L a _ HL.out).mono ?_
  rintro e w1 ⟨rfl, h1⟩
  rw [HN.out]
  obtain ⟨⟨x1, x2⟩, hx⟩ : ∃ p, nxV L a = p := ⟨_, rfl⟩
  have HX := hid_of hx
  rw [hx]
  clear hx
  have bn := below_new w1 (.cells #[.int .i64 x1, .int .i64 x2] 23)
  have X2 := hid_of (show Bs _ _ (x1, x2) from heap_new w1 (.cells #[.int .i64 x1, .int .i64 x2] 23))
  have B2 := hid_of (h1.trans (bn.mono h1.size))
  clear h1 bn
  go_wp2_with fail
  generalize w1.alloc (.cells #[.int .i64 x1, .int .i64 x2] 23) = W2 at *
  refine (next_any _ L b _ ((HL.out.below B2.out).mono B2.out.size)).mono ?_
  rintro e w3 ⟨rfl, h3⟩
  rw [HN.out]
  obtain ⟨⟨y1, y2⟩, hy⟩ : ∃ p, nxV L b = p := ⟨_, rfl⟩
  have HY := hid_of hy
  rw [hy]
  clear hy
  have bn := below_new w3 (.cells #[.int .i64 y1, .int .i64 y2] 23)
  have Y4 := hid_of (show Bs _ _ (y1, y2) from heap_new w3 (.cells #[.int .i64 y1, .int .i64 y2] 23))
  have X4 := hid_of ((X2.out.below h3 X2.out.lt).below bn (by have := X2.out.lt; have := h3.size; omega))
  have B4 := hid_of ((B2.out.trans (h3.mono B2.out.size)).trans (bn.mono (B2.out.trans (h3.mono B2.out.size)).size))
  clear h3 bn X2 B2
  go_wp2_with fail
  generalize w3.alloc (.cells #[.int .i64 y1, .int .i64 y2] 23) = W4 at *
  generalize w1.heap.size = gx at *
  generalize w3.heap.size = gy at *
  clear w1 W2 w3
  refine (begunS_any _).mono ?_
  rintro e W ⟨rfl, h⟩
  have XX := hid_of (X4.out.below h X4.out.lt)
  have YY := hid_of (Y4.out.below h Y4.out.lt)
  have BB := hid_of (B4.out.trans (h.mono B4.out.size))
  have HL := hid_of (HL.out.below BB.out)
  clear h X4 Y4 B4 W4
  have ce := hyp.1
  have c0 := hyp.2
  clear hyp
  have HK : Hid (sck (x1, x2) = 0) := hid_of (by rw [← HX.out]; exact nx_ok ce)
  have HA := hid_of (fun (k : Nat) (h : k < L.length) => nx_above ce h)
  have HS := hid_of (fun k => @nx_same L a b ce k)
  have HX2 : Hid ((x1, x2) = ((mxV L).1 + 1, a)) := hid_of (by rw [← HX.out]; exact nxV_yes ce)
  have HY2 : Hid (nxE L b = 0 → (y1, y2) = ((mxV L).1 + 1, b)) := hid_of (fun k => by rw [← HY.out]; exact nxV_yes k)
  try rw [ce]
  rw [HX.out] at HA
  have HCk : Hid (∀ w, Calls Try.prog 14 #[.agg #[.int .i64 x1, .int .i64 x2]] w fun e w' => e = .returned (.int .i64 0) ∧ Below w.heap.size w w') := hid_of (fun w => by have h := checkB x1 x2 w; rw [HK.out] at h; exact h)
  clear HK HX ce
  have LST : Hid (NxL L a b i x1 x2 y1 y2) := hid_of ⟨HX2.out, HY2.out⟩
  clear HX2 HY2 HY HS
  clear HA
  have HD : Hid (∀ w', Below W.heap.size W w' → w'.cell? ⟨gx, 0, none⟩ = some (.int .i64 x1) ∧ w'.cell? ⟨gx, 1, none⟩ = some (.int .i64 x2)) := hid_of fun w' (hw' : Below W.heap.size W w') => (XX.out.below hw' XX.out.lt).cells
  have z0 : decide (0 ≤ i) = false := decide_eq_false (by omega)
  go_wp2_with fail
  refine wp_region_quiet (C := fun w' => Below W.heap.size W w') hmx (by kernel_rfl) ((Below.refl _ _).drew) ?_
  repeat
    refine wpQuiet_step (fun K hK => ?_)
    go_simp
    first
      | (refine ⟨_, fun w' hw' => rfl, hK _ ?_⟩; clear hK K)
      | (refine ⟨_, fun w' hw' => (by simp only [HD.out w' hw', Result.andThen]; first | exact ⟨rfl, rfl⟩ | exact ⟨trivial, rfl⟩ | rfl), hK _ ?_⟩; clear hK K)
      | (refine ⟨_, fun w' hw' => (HCk.out _).mono (by rintro e w2 ⟨rfl, hB⟩; exact ⟨rfl, hw'.trans (hB.mono hw'.size)⟩), hK _ ?_⟩; clear hK K)
      | (refine hK _ ?_; clear hK K)
  refine wpQuiet_nil ?_
  intro wq hq
  have XX := hid_of (XX.out.below hq XX.out.lt)
  have YY := hid_of (YY.out.below hq YY.out.lt)
  have BB := hid_of (BB.out.trans (hq.mono BB.out.size))
  clear hq
  obtain ⟨ka1, ka2⟩ := XX.out.cells
  obtain ⟨kb1, kb2⟩ := YY.out.cells
  clear XX YY
  by_cases cf : nxE L b = 0
  · obtain ⟨e1, e2⟩ := Prod.mk.inj LST.out.1
    obtain ⟨e3, e4⟩ := Prod.mk.inj (LST.out.2 cf)
    rw [cf]
    clear LST cf
    obtain rfl : x1 = y1 := e1.trans e3.symm
    subst e2 e4
    clear e1 e3
    by_cases cab : x2 = y2
    · subst cab
      go_wp2_with fail
      go_ret
      exact ⟨rfl, BB.out⟩
    · have t2 : (x2 == y2) = false := beq_eq_false_iff_ne.2 cab
      clear cab
      go_wp2_with fail
      go_ret
      exact ⟨rfl, BB.out⟩
  · have t2 : (nxE L b != 0) = true := bne_iff_ne.2 cf
    generalize nxE L b = ye at *
    clear cf LST
    go_wp2_with fail
    go_ret
    exact ⟨rfl, BB.out⟩
theorem walk (v : Value) (L : List St) (a b i : Int) (w : World) (hL : Ss w.heap.size w v L) (_ : (Lit.int .i64 a).wf = true) (_ : (Lit.int .i64 b).wf = true) (_ : (Lit.int .i64 i).wf = true) :
    Calls Try.prog 6 #[v, .int .i64 a, .int .i64 b, .int .i64 i] w fun e w' => e = .returned (.bool true) ∧ Below w.heap.size w w' := by
  by_cases c : nxE L a = 0
  · by_cases c0 : 0 ≤ i
    · by_cases c1 : i < (L.length : Int)
      · exact walkB v L a b i w ⟨c, c0, c1⟩ hL ‹_› ‹_› ‹_›
      · exact walkC v L a b i w ⟨c, c0, c1⟩ hL ‹_› ‹_› ‹_›
    · exact walkD v L a b i w ⟨c, c0⟩ hL ‹_› ‹_› ‹_›
  · exact walkA v L a b i w c hL ‹_› ‹_› ‹_›

set_option maxRecDepth 100000 in
theorem lifted (os : Os) (started : os.Started) (H : Type) (enc : TypeId × Value → H) :
    ReturnsInHanded {} Try.checked os 6 .any (Rows.stampNextSpec.pre6 enc Try.prog Try.f6 Rows.stampNextRow.domain false) (Rows.stampNextSpec.post enc Try.prog Try.f6 false true false false) := by
  refine returnsInHanded_of_change_sized (C := Try.checked) own started (by kernel_rfl) Try.func6
    (ChangeSpec.witness6 (enc := enc) (C := Try.checked) false ⟨#[], #[.slice none 0 0, .int .i64 0, .int .i64 0, .int .i64 0], []⟩ 8 (by kernel_rfl) (by kernel_rfl) (by kernel_rfl) (by kernel_rfl)) ?_
  intro W base args ds gs before hval0 hW hcnd hsz0 _
  have hsz : (DataW.weightsEach Try.prog (Try.f6.params.toList ++ Rows.stampNextSpec.plain.varTypes Try.prog) (ds ++ gs)).all (· ≤ reachBytes) = true := hsz0
  clear hsz0
  have hval : ∀ (j : Nat) t v, Try.f6.params[j]? = some t → args[j]? = some v → Value.okWide Try.prog W .any base t v := hval0
  have hW' := hW
  obtain ⟨p, q, hA0, hV, rfl, hfz, hnd⟩ := hW
  have hA : DataW.TrodAll enc Try.prog W 0 (fun _ => true) true Try.f6.params.toList args.toList ds p := hA0
  rw [Try.params6] at hA hval hsz
  obtain ⟨v0, vs0, d0, ds0, p0, q0, hargs, rfl, rfl, h0, r0⟩ := trodAll_cons hA
  obtain ⟨v1, vs1, d1, ds1, p1, q1, rfl, rfl, rfl, h1, r1⟩ := trodAll_cons r0
  obtain ⟨v2, vs2, d2, ds2, p2, q2, rfl, rfl, rfl, h2, r2⟩ := trodAll_cons r1
  obtain ⟨v3, vs3, d3, ds3, p3, q3, rfl, rfl, rfl, h3, r3⟩ := trodAll_cons r2
  obtain ⟨rfl, rfl, rfl⟩ := trodAll_nil r3
  obtain rfl : args = #[v0, v1, v2, v3] := by cases args; simp_all
  obtain ⟨rfl, rfl⟩ := trodVars_none hV
  obtain ⟨a0, len0, cap0, rfl⟩ := okWide_slice Try.underlying24 (hval 0 24 v0 rfl rfl)
  have k0 := h0
  have lt0 : ∀ x ∈ p0, x.block < W.heap.size := by obtain ⟨m, hm⟩ := k0; exact DataW.trod_lt m _ _ _ hm
  obtain ⟨A0, w0⟩ : ∃ A, Ss W.heap.size W (.slice a0 len0 cap0) A := by
    obtain ⟨fuel, hf⟩ := h0
    exact arg_ss hf hsz (j := 0) rfl rfl
  obtain ⟨x1, rfl, rfl, rfl, w1⟩ := open_int Try.underlying3 (hval 1 3 v1 rfl rfl) h1
  obtain ⟨x2, rfl, rfl, rfl, w2⟩ := open_int Try.underlying3 (hval 2 3 v2 rfl rfl) h2
  obtain ⟨x3, rfl, rfl, rfl, w3⟩ := open_int Try.underlying3 (hval 3 3 v3 rfl rfl) h3
  clear hA0 hval0
  refine (walk _ A0 x1 x2 x3 W w0 w1 w2 w3).mono fun e W' ⟨he, bel⟩ => ?_
  subst he
  exact ⟨_, rfl, _, _, _, [], _, [], hW', trodAll_mk1 (shut_bool Try.underlying4 _), (trodAll_cons_mk (Below.trod laidOut (by kernel_rfl) (of_decide_eq_true (by kernel_rfl)) k0 bel lt0) (trodAll_cons_mk (shut_int Try.underlying3 w1) (trodAll_cons_mk (shut_int Try.underlying3 w2) (trodAll_cons_mk (shut_int Try.underlying3 w3) trodAll_mk0)))), rfl, bel.frame _, fun h => by cases h⟩

theorem over : Rows.stampNextRow.holds Try.pinned (OpenSpec.ofChange Rows.stampNextSpec) :=
  OpenClaim.holds_of_wide 6 Try.f6 rfl rfl rfl rfl rfl rfl rfl ⟨rfl, rfl, rfl, rfl, rfl⟩ rfl rfl rfl rfl rfl (by kernel_rfl) Try.func6 (by kernel_rfl)
    (of_decide_eq_true (by kernel_rfl)) (by unfold Func.isWrapper; first | (rw [if_pos (by decide +kernel)]; kernel_rfl) | (rw [if_neg (by decide +kernel)]; exact ⟨rfl, rfl⟩))
    (fun os started H enc _ => lifted os started H enc)

/-- ████ THE STATEMENT ████ -/
theorem proved : Rows.StampNextSaid := over
#print axioms proved
end Go.Proofs.Ytcplbpnpcmgjfaa.stampNext
