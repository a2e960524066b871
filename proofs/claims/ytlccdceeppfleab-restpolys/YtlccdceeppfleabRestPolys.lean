/- For every four lists of bytes RestPolys answers true, and nothing that was handed in is changed. -/
import Derived.Test.YtlccdceeppfleabRows
import Derived.Test.YtlccdceeppfleabRest1
import Derived.WalkKit
import Derived.ProofKit
import Derived.OpenShut
import Derived.ShutString
import Derived.ChangeOld
import Derived.Below
import Derived.SizedLaws
namespace Go.Proofs.Ytlccdceeppfleab.restPolys
open Go.ChangeShapes Go.WideShapes Go.ChangeAt Go.RowKit
open Go.ChangeMaps (open_string shut_string)
set_option linter.unusedVariables false

theorem own : ownKnob Try.prog.godebug = none := by kernel_rfl
theorem laidOut : laidOutB Try.prog = true := by kernel_rfl

/-- one of the four lists -/
def four (a b c d : Value) : Nat → Value
  | 0 => a
  | 1 => b
  | 2 => c
  | _ => d
def fourN (a b c d : Nat) : Nat → Nat
  | 0 => a
  | 1 => b
  | 2 => c
  | _ => d
theorem lit_four {w : World} (a b c d : Value) {j : Nat} (hj : j < 4) : (w.alloc (.cells #[a, b, c, d] 22)).cell? ⟨w.heap.size, 0 + j, none⟩ = some (four a b c d j) := by
  match j with
  | 0 => simp [go_sem, four]
  | 1 => simp [go_sem, four]
  | 2 => simp [go_sem, four]
  | 3 => simp [go_sem, four]
  | j + 4 => omega
set_option maxRecDepth 100000 in
set_option maxHeartbeats 16000000 in
theorem walk (v0 : Value) (L0 : List Nat) (v1 : Value) (L1 : List Nat) (v2 : Value) (L2 : List Nat) (v3 : Value) (L3 : List Nat) (w : World) (h0 : Bs w.heap.size w v0 L0) (h1 : Bs w.heap.size w v1 L1) (h2 : Bs w.heap.size w v2 L2) (h3 : Bs w.heap.size w v3 L3) :
    Calls Try.prog 4 #[v0, v1, v2, v3] w fun e w' => e = .returned (.bool true) ∧ Below w.heap.size w w' := by
  have H0 := hid_of h0
  have H1 := hid_of h1
  have H2 := hid_of h2
  have H3 := hid_of h3
  obtain ⟨er, hed⟩ : ∃ n, der L0 L1 = n := ⟨_, rfl⟩
  obtain ⟨lu, hlu⟩ : ∃ n, (dq L0 L1).length = n := ⟨_, rfl⟩
  have ED := hid_of hed
  have LU := hid_of hlu
  clear h0 h1 h2 h3 hed hlu
  go_enter Try.func4, Try.ntmps4
  go_wp2_with fail
  refine (roomy_any _ L0 _ H0.out).mono ?_
  rintro e w1 ⟨va, rfl, hR, hB⟩
  have H0 := hid_of ((H0.out.below hB).mono hB.size)
  have H1 := hid_of ((H1.out.below hB).mono hB.size)
  have H2 := hid_of ((H2.out.below hB).mono hB.size)
  have H3 := hid_of ((H3.out.below hB).mono hB.size)
  have RA := hid_of hR
  have BB := hid_of hB
  clear hR hB
  go_wp2_with fail
  refine (roomy_any _ L1 _ H1.out).mono ?_
  rintro e w2 ⟨vb, rfl, hR, hB⟩
  have H0 := hid_of ((H0.out.below hB).mono hB.size)
  have H1 := hid_of ((H1.out.below hB).mono hB.size)
  have H2 := hid_of ((H2.out.below hB).mono hB.size)
  have H3 := hid_of ((H3.out.below hB).mono hB.size)
  have RA := hid_of ((RA.out.below hB).mono hB.size)
  have RB := hid_of hR
  have BB := hid_of (BB.out.trans (hB.mono BB.out.size))
  clear hR hB
  go_wp2_with fail
  refine (roomy_any _ L2 _ H2.out).mono ?_
  rintro e w3 ⟨vc, rfl, hR, hB⟩
  have H0 := hid_of ((H0.out.below hB).mono hB.size)
  have H1 := hid_of ((H1.out.below hB).mono hB.size)
  have H2 := hid_of ((H2.out.below hB).mono hB.size)
  have H3 := hid_of ((H3.out.below hB).mono hB.size)
  have RA := hid_of ((RA.out.below hB).mono hB.size)
  have RB := hid_of ((RB.out.below hB).mono hB.size)
  have RC := hid_of hR
  have BB := hid_of (BB.out.trans (hB.mono BB.out.size))
  clear hR hB
  go_wp2_with fail
  refine (roomy_any _ L3 _ H3.out).mono ?_
  rintro e w4 ⟨vd, rfl, hR, hB⟩
  have H0 := hid_of ((H0.out.below hB).mono hB.size)
  have H1 := hid_of ((H1.out.below hB).mono hB.size)
  have H2 := hid_of ((H2.out.below hB).mono hB.size)
  have H3 := hid_of ((H3.out.below hB).mono hB.size)
  have RA := hid_of ((RA.out.below hB).mono hB.size)
  have RB := hid_of ((RB.out.below hB).mono hB.size)
  have RC := hid_of ((RC.out.below hB).mono hB.size)
  have RD := hid_of hR
  have BB := hid_of (BB.out.trans (hB.mono BB.out.size))
  clear hR hB
  have B4 := hid_of (Below.refl w4.heap.size w4)
  obtain ⟨bt, hbt⟩ : ∃ n, w4.heap.size = n := ⟨_, rfl⟩
  go_wp2_with fail
  refine (trim_any _ L0 _ (((RA.out.below B4.out).mono B4.out.size).bs)).mono ?_
  rintro e w5 ⟨vt, rfl, hO, hB⟩
  obtain ⟨at', ct', st'⟩ := hO.shape
  obtain ⟨lt', qt'⟩ : ∃ n, (trim L0).length = n := ⟨_, rfl⟩
  rw [qt'] at st'
  subst st'
  clear qt'
  have B4 := hid_of (B4.out.trans (hB.mono B4.out.size))
  have OT := hid_of hO
  have ht := hO.hi
  have sz5 := hB.size
  clear hO hB
  go_wp2_with fail
  refine (mul_fresh _ _ L0 L1 _ (((RA.out.below B4.out).mono B4.out.size).bs) (((RB.out.below B4.out).mono B4.out.size).bs)).mono ?_
  rintro e w6 ⟨⟨vm, em, LM, rfl, hO⟩, hB⟩
  obtain ⟨am', cm', sm'⟩ := hO.shape
  obtain ⟨lm', qm'⟩ : ∃ n, (LM).length = n := ⟨_, rfl⟩
  rw [qm'] at sm'
  subst sm'
  clear qm'
  have OT := hid_of (OT.out.below hB (Nat.le_refl _))
  have B4 := hid_of (B4.out.trans (hB.mono B4.out.size))
  have OM := hid_of hO
  have hm := hO.hi
  have sz6 := hB.size
  clear hO hB
  go_wp2_with fail
  refine (div_all _ _ L0 L1 _ (((RA.out.below B4.out).mono B4.out.size).bs) (((RB.out.below B4.out).mono B4.out.size).bs) er ED.out).mono ?_
  rintro e w7 ⟨vx, vy, s, rfl, hO, hx, hY, hs1, hs2, hB⟩
  obtain ⟨ay', cy', sy'⟩ := hY.shape
  obtain ⟨ly', qy'⟩ : ∃ n, (dr L0 L1).length = n := ⟨_, rfl⟩
  rw [qy'] at sy'
  subst sy'
  clear qy'
  obtain ⟨ax, cx, hsh⟩ := hO.shape
  rw [LU.out] at hsh
  subst hsh
  have OT := hid_of (OT.out.below hB (Nat.le_refl _))
  have OM := hid_of (OM.out.below hB (Nat.le_refl _))
  have B4 := hid_of (B4.out.trans (hB.mono B4.out.size))
  have OX := hid_of hO
  have OY := hid_of hY
  have hy := hY.hi
  have sz7 := hB.size
  clear hO hY hB
  go_wp2_with fail
  refine (meet_fresh _ _ L2 L3 _ (((RC.out.below B4.out).mono B4.out.size).bs) (((RD.out.below B4.out).mono B4.out.size).bs)).mono ?_
  rintro e w8 ⟨⟨vz, ez, LZ, rfl, hO⟩, hB⟩
  obtain ⟨az', cz', sz'⟩ := hO.shape
  obtain ⟨lz', qz'⟩ : ∃ n, (LZ).length = n := ⟨_, rfl⟩
  rw [qz'] at sz'
  subst sz'
  clear qz'
  have OT := hid_of (OT.out.below hB (Nat.le_refl _))
  have OM := hid_of (OM.out.below hB (Nat.le_refl _))
  have OX := hid_of (OX.out.below hB (Nat.le_refl _))
  have OY := hid_of (OY.out.below hB (Nat.le_refl _))
  have B4 := hid_of (B4.out.trans (hB.mono B4.out.size))
  have OZ := hid_of hO
  have hz := hO.hi
  have sz8 := hB.size
  clear hO hB
  go_wp2_with fail
  refine (begun_any _).mono ?_
  rintro e w9 ⟨rfl, hB⟩
  have OT := hid_of (OT.out.below hB (Nat.le_refl _))
  have OM := hid_of (OM.out.below hB (Nat.le_refl _))
  have OX := hid_of (OX.out.below hB (Nat.le_refl _))
  have OY := hid_of (OY.out.below hB (Nat.le_refl _))
  have OZ := hid_of (OZ.out.below hB (Nat.le_refl _))
  have B4 := hid_of (B4.out.trans (hB.mono B4.out.size))
  have sz9 := hB.size
  clear hB
  have HT := hid_of ht
  have HM := hid_of hm
  have HX := hid_of hx
  have HY := hid_of hy
  have HZ := hid_of hz
  clear ht hm hx hy hz
  go_wp2_with fail
  refine (scratch_any _ _ _ _ OX.out).mono ?_
  rintro e w10 ⟨⟨ux, rfl⟩, hS⟩
  have hlo := hS.below OX.out
  have OT := hid_of (OT.out.lo (lo := w6.heap.size) (fun g hg => by have := HT.out g hg; omega) hlo)
  have OM := hid_of (OM.out.lo (lo := w6.heap.size) (fun g hg => by have := HM.out g hg; omega) hlo)
  have OY := hid_of (hS.own HX.out OY.out (Nat.le_refl _))
  have OZ := hid_of (hS.own HX.out OZ.out hs2)
  have B4 := hid_of (B4.out.trans (hlo.mono (by omega)))
  have sz10 := hS.size
  clear hS hlo OX
  go_wp2_with fail
  refine (div_all _ _ L0 L1 _ ((H0.out.below B4.out).mono B4.out.size) ((H1.out.below B4.out).mono B4.out.size) er ED.out).mono ?_
  rintro e w11 ⟨vu, vv, s', rfl, hO, _, hV, _, _, hB⟩
  obtain ⟨au, cu, hsh⟩ := hO.shape
  rw [LU.out] at hsh
  subst hsh
  have OT := hid_of (OT.out.below hB (Nat.le_refl _))
  have OM := hid_of (OM.out.below hB (Nat.le_refl _))
  have OY := hid_of (OY.out.below hB (Nat.le_refl _))
  have OZ := hid_of (OZ.out.below hB (Nat.le_refl _))
  have B4 := hid_of (B4.out.trans (hB.mono B4.out.size))
  have OV := hid_of hV
  have sz11 := hB.size
  clear hO hV hB
  by_cases hz : er = 0
  · subst hz
    go_wp2_with fail
    refine (same_any _ _ (dr L0 L1) (dr L0 L1) _ _ OY.out.bs OV.out.bs).mono ?_
    rintro e w12 ⟨rfl, hB⟩
    rw [decide_eq_true rfl]
    have OT := hid_of (OT.out.below hB (Nat.le_refl _))
    have OM := hid_of (OM.out.below hB (Nat.le_refl _))
    have OY := hid_of (OY.out.below hB (Nat.le_refl _))
    have OZ := hid_of (OZ.out.below hB (Nat.le_refl _))
    have B4 := hid_of (B4.out.trans (hB.mono B4.out.size))
    have sz12 := hB.size
    clear hB OV
    have HL := hid_of (fun j hj => lit_four (w := w12) (.slice at' lt' ct') (.slice am' lm' cm') (.slice ay' ly' cy') (.slice az' lz' cz') (j := j) hj)
    have hBl := (Below.refl w12.heap.size w12).alloc (Nat.le_refl _) (.cells #[(.slice at' lt' ct'), (.slice am' lm' cm'), (.slice ay' ly' cy'), (.slice az' lz' cz')] 22)
    have OT := hid_of (OT.out.below hBl (Nat.le_refl _))
    have OM := hid_of (OM.out.below hBl (Nat.le_refl _))
    have OY := hid_of (OY.out.below hBl (Nat.le_refl _))
    have OZ := hid_of (OZ.out.below hBl (Nat.le_refl _))
    have B4 := hid_of (B4.out.trans (hBl.mono B4.out.size))
    have OW : Hid (∀ j, j < 4 → ∃ L, Ow (fourN w4.heap.size w5.heap.size s w7.heap.size j) (w12.alloc (.cells #[(.slice at' lt' ct'), (.slice am' lm' cm'), (.slice ay' ly' cy'), (.slice az' lz' cz')] 22)) (four (.slice at' lt' ct') (.slice am' lm' cm') (.slice ay' ly' cy') (.slice az' lz' cz') j) L) := by
      refine hid_of fun j hj => ?_
      match j with
      | 0 => exact ⟨_, OT.out⟩
      | 1 => exact ⟨_, OM.out⟩
      | 2 => exact ⟨_, OY.out⟩
      | 3 => exact ⟨_, OZ.out⟩
      | j + 4 => omega
    have HH : Hid (∀ j, j < 4 → ∀ g, (four (.slice at' lt' ct') (.slice am' lm' cm') (.slice ay' ly' cy') (.slice az' lz' cz') j).ownBlock = some g → g < fourN w5.heap.size w6.heap.size w7.heap.size w8.heap.size j) := by
      refine hid_of fun j hj => ?_
      match j with
      | 0 => exact HT.out
      | 1 => exact HM.out
      | 2 => exact HY.out
      | 3 => exact HZ.out
      | j + 4 => omega
    have HI : Hid (∀ i j, i < j → j < 4 → fourN w5.heap.size w6.heap.size w7.heap.size w8.heap.size i ≤ fourN w4.heap.size w5.heap.size s w7.heap.size j) := by
      refine hid_of fun i j hij hj => ?_
      match i, j with
      | 0, 1 => simp only [fourN]; omega
      | 0, 2 => simp only [fourN]; omega
      | 0, 3 => simp only [fourN]; omega
      | 1, 2 => simp only [fourN]; omega
      | 1, 3 => simp only [fourN]; omega
      | 2, 3 => simp only [fourN]; omega
      | _, j + 4 => omega
      | 0, 0 => omega
      | i + 1, 0 => omega
      | i + 1, 1 => omega
      | i + 2, 2 => omega
      | i + 3, 3 => omega
    have HK : Hid (∀ j, j < 4 → w4.heap.size ≤ fourN w4.heap.size w5.heap.size s w7.heap.size j ∧ fourN w5.heap.size w6.heap.size w7.heap.size w8.heap.size j ≤ w12.heap.size) := by
      refine hid_of fun j hj => ?_
      match j with
      | 0 => simp only [fourN]; omega
      | 1 => simp only [fourN]; omega
      | 2 => simp only [fourN]; omega
      | 3 => simp only [fourN]; omega
      | j + 4 => omega
    clear OT OM OY OZ hBl
    generalize four (.slice at' lt' ct') (.slice am' lm' cm') (.slice ay' ly' cy') (.slice az' lz' cz') = vs at *
    generalize fourN w4.heap.size w5.heap.size s w7.heap.size = bs at *
    generalize fourN w5.heap.size w6.heap.size w7.heap.size w8.heap.size = hs at *
    go_wp2_with fail
    go_loopw [87] (fun i w' => ∃ k : Nat, k ≤ 4 ∧ i = .int .i64 k ∧ Hid (Below w4.heap.size w4 w') ∧ Hid (∀ j, j < 4 → w'.cell? ⟨w12.heap.size, 0 + j, none⟩ = some (vs j)) ∧ Hid (∀ j, k ≤ j → j < 4 → ∃ L, Ow (bs j) w' (vs j) L)) (fun i _ => 4 - (intOf i).toNat)
    case atStart => exact ⟨0, by omega, rfl, B4, HL, fun j _ hj => OW.out j hj⟩
    case round =>
      obtain ⟨k, hk, rfl, HB, HC, HO⟩ := hrel
      by_cases hlt : k < 4
      · have hc := HC.out k hlt
        rw [Nat.zero_add] at hc
        obtain ⟨L, hL⟩ := HO.out k (Nat.le_refl _) hlt
        have HLk := hid_of hL
        clear hL
        go_wp2_with fail
        refine (scratch_any _ _ _ _ HLk.out).mono ?_
        rintro e w13 ⟨⟨uu, rfl⟩, hS⟩
        have hB2 := hid_of (HB.out.trans ((hS.below HLk.out).mono (HK.out k hlt).1))
        have hC2 : Hid (∀ j, j < 4 → w13.cell? ⟨w12.heap.size, 0 + j, none⟩ = some (vs j)) := hid_of fun j hj => (hS.cell (HH.out k hlt) (p := ⟨w12.heap.size, 0 + j, none⟩) (HK.out k hlt).2).trans (HC.out j hj)
        have hO2 : Hid (∀ j, k + 1 ≤ j → j < 4 → ∃ L, Ow (bs j) w13 (vs j) L) := by
          refine hid_of fun j hkj hj => ?_
          obtain ⟨L', hL'⟩ := HO.out j (by omega) hj
          exact ⟨L', hS.own (HH.out k hlt) hL' (HI.out k j (by omega) hj)⟩
        clear hS
        go_wp2_with fail
        go_roundw
        case rel => exact ⟨k + 1, by omega, by go_num, hB2, hC2, hO2⟩
        case measure => simp [intOf]; omega
      · have hke : k = 4 := by omega
        subst hke
        clear HC HO
        go_wp2_with fail
        refine (kept_any _ _ L0 _ ((RA.out.below HB.out).mono HB.out.size) ((H0.out.below HB.out).mono HB.out.size)).mono ?_
        rintro e w14 ⟨rfl, hB⟩
        have HB := hid_of (HB.out.trans (hB.mono HB.out.size))
        clear hB
        go_wp2_with fail
        refine (kept_any _ _ L1 _ ((RB.out.below HB.out).mono HB.out.size) ((H1.out.below HB.out).mono HB.out.size)).mono ?_
        rintro e w15 ⟨rfl, hB⟩
        have HB := hid_of (HB.out.trans (hB.mono HB.out.size))
        clear hB
        go_wp2_with fail
        refine (kept_any _ _ L2 _ ((RC.out.below HB.out).mono HB.out.size) ((H2.out.below HB.out).mono HB.out.size)).mono ?_
        rintro e w16 ⟨rfl, hB⟩
        have HB := hid_of (HB.out.trans (hB.mono HB.out.size))
        clear hB
        go_wp2_with fail
        refine (kept_any _ _ L3 _ ((RD.out.below HB.out).mono HB.out.size) ((H3.out.below HB.out).mono HB.out.size)).mono ?_
        rintro e w17 ⟨rfl, hB⟩
        have HB := hid_of (HB.out.trans (hB.mono HB.out.size))
        clear hB
        go_wp2_with fail
        go_ret
        exact ⟨rfl, BB.out.trans (HB.out.mono BB.out.size)⟩
  · have z : ((er : Int) == 0) = false := by rw [beq_eq_false_iff_ne]; omega
    clear OV
    have HL := hid_of (fun j hj => lit_four (w := w11) (.slice at' lt' ct') (.slice am' lm' cm') (.slice ay' ly' cy') (.slice az' lz' cz') (j := j) hj)
    have hBl := (Below.refl w11.heap.size w11).alloc (Nat.le_refl _) (.cells #[(.slice at' lt' ct'), (.slice am' lm' cm'), (.slice ay' ly' cy'), (.slice az' lz' cz')] 22)
    have OT := hid_of (OT.out.below hBl (Nat.le_refl _))
    have OM := hid_of (OM.out.below hBl (Nat.le_refl _))
    have OY := hid_of (OY.out.below hBl (Nat.le_refl _))
    have OZ := hid_of (OZ.out.below hBl (Nat.le_refl _))
    have B4 := hid_of (B4.out.trans (hBl.mono B4.out.size))
    have OW : Hid (∀ j, j < 4 → ∃ L, Ow (fourN w4.heap.size w5.heap.size s w7.heap.size j) (w11.alloc (.cells #[(.slice at' lt' ct'), (.slice am' lm' cm'), (.slice ay' ly' cy'), (.slice az' lz' cz')] 22)) (four (.slice at' lt' ct') (.slice am' lm' cm') (.slice ay' ly' cy') (.slice az' lz' cz') j) L) := by
      refine hid_of fun j hj => ?_
      match j with
      | 0 => exact ⟨_, OT.out⟩
      | 1 => exact ⟨_, OM.out⟩
      | 2 => exact ⟨_, OY.out⟩
      | 3 => exact ⟨_, OZ.out⟩
      | j + 4 => omega
    have HH : Hid (∀ j, j < 4 → ∀ g, (four (.slice at' lt' ct') (.slice am' lm' cm') (.slice ay' ly' cy') (.slice az' lz' cz') j).ownBlock = some g → g < fourN w5.heap.size w6.heap.size w7.heap.size w8.heap.size j) := by
      refine hid_of fun j hj => ?_
      match j with
      | 0 => exact HT.out
      | 1 => exact HM.out
      | 2 => exact HY.out
      | 3 => exact HZ.out
      | j + 4 => omega
    have HI : Hid (∀ i j, i < j → j < 4 → fourN w5.heap.size w6.heap.size w7.heap.size w8.heap.size i ≤ fourN w4.heap.size w5.heap.size s w7.heap.size j) := by
      refine hid_of fun i j hij hj => ?_
      match i, j with
      | 0, 1 => simp only [fourN]; omega
      | 0, 2 => simp only [fourN]; omega
      | 0, 3 => simp only [fourN]; omega
      | 1, 2 => simp only [fourN]; omega
      | 1, 3 => simp only [fourN]; omega
      | 2, 3 => simp only [fourN]; omega
      | _, j + 4 => omega
      | 0, 0 => omega
      | i + 1, 0 => omega
      | i + 1, 1 => omega
      | i + 2, 2 => omega
      | i + 3, 3 => omega
    have HK : Hid (∀ j, j < 4 → w4.heap.size ≤ fourN w4.heap.size w5.heap.size s w7.heap.size j ∧ fourN w5.heap.size w6.heap.size w7.heap.size w8.heap.size j ≤ w11.heap.size) := by
      refine hid_of fun j hj => ?_
      match j with
      | 0 => simp only [fourN]; omega
      | 1 => simp only [fourN]; omega
      | 2 => simp only [fourN]; omega
      | 3 => simp only [fourN]; omega
      | j + 4 => omega
    clear OT OM OY OZ hBl
    generalize four (.slice at' lt' ct') (.slice am' lm' cm') (.slice ay' ly' cy') (.slice az' lz' cz') = vs at *
    generalize fourN w4.heap.size w5.heap.size s w7.heap.size = bs at *
    generalize fourN w5.heap.size w6.heap.size w7.heap.size w8.heap.size = hs at *
    go_wp2_with fail
    go_loopw [87] (fun i w' => ∃ k : Nat, k ≤ 4 ∧ i = .int .i64 k ∧ Hid (Below w4.heap.size w4 w') ∧ Hid (∀ j, j < 4 → w'.cell? ⟨w11.heap.size, 0 + j, none⟩ = some (vs j)) ∧ Hid (∀ j, k ≤ j → j < 4 → ∃ L, Ow (bs j) w' (vs j) L)) (fun i _ => 4 - (intOf i).toNat)
    case atStart => exact ⟨0, by omega, rfl, B4, HL, fun j _ hj => OW.out j hj⟩
    case round =>
      obtain ⟨k, hk, rfl, HB, HC, HO⟩ := hrel
      by_cases hlt : k < 4
      · have hc := HC.out k hlt
        rw [Nat.zero_add] at hc
        obtain ⟨L, hL⟩ := HO.out k (Nat.le_refl _) hlt
        have HLk := hid_of hL
        clear hL
        go_wp2_with fail
        refine (scratch_any _ _ _ _ HLk.out).mono ?_
        rintro e w13 ⟨⟨uu, rfl⟩, hS⟩
        have hB2 := hid_of (HB.out.trans ((hS.below HLk.out).mono (HK.out k hlt).1))
        have hC2 : Hid (∀ j, j < 4 → w13.cell? ⟨w11.heap.size, 0 + j, none⟩ = some (vs j)) := hid_of fun j hj => (hS.cell (HH.out k hlt) (p := ⟨w11.heap.size, 0 + j, none⟩) (HK.out k hlt).2).trans (HC.out j hj)
        have hO2 : Hid (∀ j, k + 1 ≤ j → j < 4 → ∃ L, Ow (bs j) w13 (vs j) L) := by
          refine hid_of fun j hkj hj => ?_
          obtain ⟨L', hL'⟩ := HO.out j (by omega) hj
          exact ⟨L', hS.own (HH.out k hlt) hL' (HI.out k j (by omega) hj)⟩
        clear hS
        go_wp2_with fail
        go_roundw
        case rel => exact ⟨k + 1, by omega, by go_num, hB2, hC2, hO2⟩
        case measure => simp [intOf]; omega
      · have hke : k = 4 := by omega
        subst hke
        clear HC HO
        go_wp2_with fail
        refine (kept_any _ _ L0 _ ((RA.out.below HB.out).mono HB.out.size) ((H0.out.below HB.out).mono HB.out.size)).mono ?_
        rintro e w14 ⟨rfl, hB⟩
        have HB := hid_of (HB.out.trans (hB.mono HB.out.size))
        clear hB
        go_wp2_with fail
        refine (kept_any _ _ L1 _ ((RB.out.below HB.out).mono HB.out.size) ((H1.out.below HB.out).mono HB.out.size)).mono ?_
        rintro e w15 ⟨rfl, hB⟩
        have HB := hid_of (HB.out.trans (hB.mono HB.out.size))
        clear hB
        go_wp2_with fail
        refine (kept_any _ _ L2 _ ((RC.out.below HB.out).mono HB.out.size) ((H2.out.below HB.out).mono HB.out.size)).mono ?_
        rintro e w16 ⟨rfl, hB⟩
        have HB := hid_of (HB.out.trans (hB.mono HB.out.size))
        clear hB
        go_wp2_with fail
        refine (kept_any _ _ L3 _ ((RD.out.below HB.out).mono HB.out.size) ((H3.out.below HB.out).mono HB.out.size)).mono ?_
        rintro e w17 ⟨rfl, hB⟩
        have HB := hid_of (HB.out.trans (hB.mono HB.out.size))
        clear hB
        go_wp2_with fail
        go_ret
        exact ⟨rfl, BB.out.trans (HB.out.mono BB.out.size)⟩

/-! ### THE ROW's STEP: WRITTEN OUT: LEAVE IT -/
set_option maxRecDepth 100000 in
theorem lifted (os : Os) (started : os.Started) (H : Type) (enc : TypeId × Value → H) :
    ReturnsInHanded {} Try.checked os 4 .any (Rows.restPolysSpec.pre6 enc Try.prog Try.f4 Rows.restPolysRow.domain false) (Rows.restPolysSpec.post enc Try.prog Try.f4 false true false false) := by
  refine returnsInHanded_of_change_sized (C := Try.checked) own started (by kernel_rfl) Try.func4
    (ChangeSpec.witness6 (enc := enc) (C := Try.checked) false ⟨#[], #[.slice none 0 0, .slice none 0 0, .slice none 0 0, .slice none 0 0], []⟩ 8 (by kernel_rfl) (by kernel_rfl) (by kernel_rfl) (by kernel_rfl)) ?_
  intro W base args ds gs before hval0 hW hcnd hsz0 _
  have hsz : (DataW.weightsEach Try.prog (Try.f4.params.toList ++ Rows.restPolysSpec.plain.varTypes Try.prog) (ds ++ gs)).all (· ≤ reachBytes) = true := hsz0
  clear hsz0
  have hval : ∀ (j : Nat) t v, Try.f4.params[j]? = some t → args[j]? = some v → Value.okWide Try.prog W .any base t v := hval0
  have hW' := hW
  obtain ⟨p, q, hA0, hV, rfl, hfz, hnd⟩ := hW
  have hA : DataW.TrodAll enc Try.prog W 0 (fun _ => true) true Try.f4.params.toList args.toList ds p := hA0
  rw [Try.params4] at hA hval hsz
  obtain ⟨v0, vs0, d0, ds0, p0, q0, hargs, rfl, rfl, h0, r0⟩ := trodAll_cons hA
  obtain ⟨v1, vs1, d1, ds1, p1, q1, rfl, rfl, rfl, h1, r1⟩ := trodAll_cons r0
  obtain ⟨v2, vs2, d2, ds2, p2, q2, rfl, rfl, rfl, h2, r2⟩ := trodAll_cons r1
  obtain ⟨v3, vs3, d3, ds3, p3, q3, rfl, rfl, rfl, h3, r3⟩ := trodAll_cons r2
  obtain ⟨rfl, rfl, rfl⟩ := trodAll_nil r3
  obtain rfl : args = #[v0, v1, v2, v3] := by cases args; simp_all
  obtain ⟨rfl, rfl⟩ := trodVars_none hV
  obtain ⟨a0, len0, cap0, rfl⟩ := okWide_slice Try.underlying22 (hval 0 22 v0 rfl rfl)
  have k0 := h0
  have lt0 : ∀ x ∈ p0, x.block < W.heap.size := by obtain ⟨m, hm⟩ := k0; exact DataW.trod_lt m _ _ _ hm
  obtain ⟨L0, w0⟩ : ∃ L, Bs W.heap.size W (.slice a0 len0 cap0) L := by
    obtain ⟨fuel, hf⟩ := h0
    rcases open_ints Try.underlying22 Try.underlying5 (by kernel_rfl) hf with ⟨hcs, _⟩ | ⟨x, l, c, zs, hcs, _, hl, hm, hz, hx, hcell, hwz⟩
    · simp [Value.cells] at hcs
      obtain ⟨rfl, rfl, rfl⟩ := hcs
      exact ⟨[], Bs.nil _ _⟩
    · simp [Value.cells] at hcs
      obtain ⟨rfl, rfl, rfl⟩ := hcs
      have e0 := (Prod.mk.inj hx).1
      have hb := sized_slice hsz (j := 0) (t := 22) (e := 5) rfl (congrArg some e0) Try.underlying22
      rw [show Try.prog.bytesOf 5 = 1 by kernel_rfl] at hb
      simp only [lits, List.length_map, List.length_take, List.length_drop, reachBytes] at hb
      simp only [if_true] at hz
      obtain ⟨L, hL, _⟩ := isRow_bs (.inr ⟨_, rfl, hl, hm, hz, hcell, hwz⟩) (by omega)
      exact ⟨L, hL⟩
  obtain ⟨a1, len1, cap1, rfl⟩ := okWide_slice Try.underlying22 (hval 1 22 v1 rfl rfl)
  have k1 := h1
  have lt1 : ∀ x ∈ p1, x.block < W.heap.size := by obtain ⟨m, hm⟩ := k1; exact DataW.trod_lt m _ _ _ hm
  obtain ⟨L1, w1⟩ : ∃ L, Bs W.heap.size W (.slice a1 len1 cap1) L := by
    obtain ⟨fuel, hf⟩ := h1
    rcases open_ints Try.underlying22 Try.underlying5 (by kernel_rfl) hf with ⟨hcs, _⟩ | ⟨x, l, c, zs, hcs, _, hl, hm, hz, hx, hcell, hwz⟩
    · simp [Value.cells] at hcs
      obtain ⟨rfl, rfl, rfl⟩ := hcs
      exact ⟨[], Bs.nil _ _⟩
    · simp [Value.cells] at hcs
      obtain ⟨rfl, rfl, rfl⟩ := hcs
      have e0 := (Prod.mk.inj hx).1
      have hb := sized_slice hsz (j := 1) (t := 22) (e := 5) rfl (congrArg some e0) Try.underlying22
      rw [show Try.prog.bytesOf 5 = 1 by kernel_rfl] at hb
      simp only [lits, List.length_map, List.length_take, List.length_drop, reachBytes] at hb
      simp only [if_true] at hz
      obtain ⟨L, hL, _⟩ := isRow_bs (.inr ⟨_, rfl, hl, hm, hz, hcell, hwz⟩) (by omega)
      exact ⟨L, hL⟩
  obtain ⟨a2, len2, cap2, rfl⟩ := okWide_slice Try.underlying22 (hval 2 22 v2 rfl rfl)
  have k2 := h2
  have lt2 : ∀ x ∈ p2, x.block < W.heap.size := by obtain ⟨m, hm⟩ := k2; exact DataW.trod_lt m _ _ _ hm
  obtain ⟨L2, w2⟩ : ∃ L, Bs W.heap.size W (.slice a2 len2 cap2) L := by
    obtain ⟨fuel, hf⟩ := h2
    rcases open_ints Try.underlying22 Try.underlying5 (by kernel_rfl) hf with ⟨hcs, _⟩ | ⟨x, l, c, zs, hcs, _, hl, hm, hz, hx, hcell, hwz⟩
    · simp [Value.cells] at hcs
      obtain ⟨rfl, rfl, rfl⟩ := hcs
      exact ⟨[], Bs.nil _ _⟩
    · simp [Value.cells] at hcs
      obtain ⟨rfl, rfl, rfl⟩ := hcs
      have e0 := (Prod.mk.inj hx).1
      have hb := sized_slice hsz (j := 2) (t := 22) (e := 5) rfl (congrArg some e0) Try.underlying22
      rw [show Try.prog.bytesOf 5 = 1 by kernel_rfl] at hb
      simp only [lits, List.length_map, List.length_take, List.length_drop, reachBytes] at hb
      simp only [if_true] at hz
      obtain ⟨L, hL, _⟩ := isRow_bs (.inr ⟨_, rfl, hl, hm, hz, hcell, hwz⟩) (by omega)
      exact ⟨L, hL⟩
  obtain ⟨a3, len3, cap3, rfl⟩ := okWide_slice Try.underlying22 (hval 3 22 v3 rfl rfl)
  have k3 := h3
  have lt3 : ∀ x ∈ p3, x.block < W.heap.size := by obtain ⟨m, hm⟩ := k3; exact DataW.trod_lt m _ _ _ hm
  obtain ⟨L3, w3⟩ : ∃ L, Bs W.heap.size W (.slice a3 len3 cap3) L := by
    obtain ⟨fuel, hf⟩ := h3
    rcases open_ints Try.underlying22 Try.underlying5 (by kernel_rfl) hf with ⟨hcs, _⟩ | ⟨x, l, c, zs, hcs, _, hl, hm, hz, hx, hcell, hwz⟩
    · simp [Value.cells] at hcs
      obtain ⟨rfl, rfl, rfl⟩ := hcs
      exact ⟨[], Bs.nil _ _⟩
    · simp [Value.cells] at hcs
      obtain ⟨rfl, rfl, rfl⟩ := hcs
      have e0 := (Prod.mk.inj hx).1
      have hb := sized_slice hsz (j := 3) (t := 22) (e := 5) rfl (congrArg some e0) Try.underlying22
      rw [show Try.prog.bytesOf 5 = 1 by kernel_rfl] at hb
      simp only [lits, List.length_map, List.length_take, List.length_drop, reachBytes] at hb
      simp only [if_true] at hz
      obtain ⟨L, hL, _⟩ := isRow_bs (.inr ⟨_, rfl, hl, hm, hz, hcell, hwz⟩) (by omega)
      exact ⟨L, hL⟩
  clear hA0 hval0
  refine (walk _ L0 _ L1 _ L2 _ L3 W w0 w1 w2 w3).mono fun e W' ⟨he, bel⟩ => ?_
  subst he
  exact ⟨_, rfl, _, _, _, [], _, [], hW', trodAll_mk1 (shut_bool Try.underlying4 _), (trodAll_cons_mk (Below.trod laidOut (by kernel_rfl) (of_decide_eq_true (by kernel_rfl)) k0 bel lt0) (trodAll_cons_mk (Below.trod laidOut (by kernel_rfl) (of_decide_eq_true (by kernel_rfl)) k1 bel lt1) (trodAll_cons_mk (Below.trod laidOut (by kernel_rfl) (of_decide_eq_true (by kernel_rfl)) k2 bel lt2) (trodAll_cons_mk (Below.trod laidOut (by kernel_rfl) (of_decide_eq_true (by kernel_rfl)) k3 bel lt3) trodAll_mk0)))), rfl, bel.frame _, fun h => by cases h⟩

theorem over : Rows.restPolysRow.holds Try.pinned (OpenSpec.ofChange Rows.restPolysSpec) :=
  OpenClaim.holds_of_wide 4 Try.f4 rfl rfl rfl rfl rfl rfl rfl ⟨rfl, rfl, rfl, rfl, rfl⟩ rfl rfl rfl rfl rfl (by kernel_rfl) Try.func4 (by kernel_rfl)
    (of_decide_eq_true (by kernel_rfl)) (by unfold Func.isWrapper; first | (rw [if_pos (by decide +kernel)]; kernel_rfl) | (rw [if_neg (by decide +kernel)]; exact ⟨rfl, rfl⟩))
    (fun os started H enc _ => lifted os started H enc)

/-- ████ THE STATEMENT ████ -/
theorem proved : Rows.RestPolysSaid := over
#print axioms proved
end Go.Proofs.Ytlccdceeppfleab.restPolys
