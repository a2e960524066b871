/- For every list of bytes PolyRoots answers true, and nothing that was handed in is changed. -/
import Derived.Test.YtlccdceeppfleabRows
import Derived.Test.YtlccdceeppfleabZero
import Derived.WalkKit
import Derived.ProofKit
import Derived.OpenShut
import Derived.ShutString
import Derived.ChangeOld
import Derived.Below
import Derived.SizedLaws
namespace Go.Proofs.Ytlccdceeppfleab.polyRoots
open Go.ChangeShapes Go.WideShapes Go.ChangeAt Go.RowKit
open Go.ChangeMaps (open_string shut_string)
set_option linter.unusedVariables false

theorem own : ownKnob Try.prog.godebug = none := by kernel_rfl
theorem laidOut : laidOutB Try.prog = true := by kernel_rfl

theorem trim_lin (x : Nat) : trim [x, 1] = [x, 1] := by
  have := trim_snoc [x] 1
  rw [if_neg (by decide)] at this
  exact this
theorem root_rest {P : List Nat} {x : Nat} (hP : Byt P) (hx : x < 256) (h : pval P x = 0) : pdr P [x, 1] = [] := by
  have hQ : Byt [x, 1] := by intro z hz; simp at hz; omega
  have n0 : trim [x, 1] ≠ [] := by rw [trim_lin]; simp
  obtain ⟨_, h2, _, h4, h5⟩ := div_fin hP hQ n0
  have e := congrArg (fun L => pval L x) (div_back hP hQ n0)
  have e1 : pval [x, 1] x = 0 := by
    rw [pval_cons, pval_cons, pval_nil, Gf.gm_zeroL, Nat.zero_xor, Gf.gm_oneL hx, Nat.xor_self]
  rw [pval_plus (byt_pm h4 hQ) h5 hx, pval_trim, pval_pm h4 hQ hx, e1, Gf.gm_zeroR, Nat.zero_xor, h] at e
  rw [trim_lin] at h2
  have ht : trim (pdr P [x, 1]) = pdr P [x, 1] := by unfold pdr; exact trim_trim _
  cases hr : pdr P [x, 1] with
  | nil => rfl
  | cons a L =>
    rw [hr] at h2 e ht
    have : L = [] := List.length_eq_zero_iff.1 (by simp at h2; omega)
    subst this
    rw [pval_cons, pval_nil, Gf.gm_zeroL, Nat.zero_xor] at e
    subst e
    exact absurd ht (by decide)
/-- how many roots there are below k -/
def rc (T : List Nat) : Nat → Nat
  | 0 => 0
  | k + 1 => rc T k + if pval T k = 0 then 1 else 0
theorem rc_le (T : List Nat) : ∀ k, rc T k ≤ k
  | 0 => Nat.le_refl _
  | k + 1 => by have := rc_le T k; rw [rc]; split <;> omega
theorem rc_len (T : List Nat) : ∀ k, ((List.range k).filter fun x => decide (pval T x = 0)).length = rc T k
  | 0 => rfl
  | k + 1 => by
    rw [List.range_succ, List.filter_append, List.length_append, rc_len T k, rc]
    by_cases h : pval T k = 0 <;> simp [h]
theorem rc_few {T : List Nat} (hT : Byt T) (ht : trim T = T) (h0 : T ≠ []) : rc T 256 < T.length := by
  apply Nat.lt_of_not_le
  intro c
  have hz := zeroes ((List.range 256).filter fun x => decide (pval T x = 0)) (L := T)
    (by intro x hx; exact List.mem_range.1 (List.mem_filter.1 hx).1)
    (List.Nodup.sublist List.filter_sublist List.nodup_range) hT (by rw [rc_len, ht]; exact c)
    (by intro x hx; exact of_decide_eq_true (List.mem_filter.1 hx).2)
  have hl : 0 < T.length := List.length_pos_iff.2 h0
  have ne := co_top (L := T) (by rw [ht]; exact hl)
  rw [ht] at ne
  apply ne
  unfold co
  cases hg : T[T.length - 1]? with
  | none => rfl
  | some z => exact hz z (List.mem_of_getElem? hg)
theorem wrap_u8 {k : Nat} (h : k < 256) : IntKind.u8.wrap (k : Int) = (k : Int) := by
  unfold IntKind.wrap
  simp [IntKind.signed, IntKind.bits]
  omega
set_option maxRecDepth 100000 in
set_option maxHeartbeats 4000000 in
theorem walk_ok (v0 : Value) (L0 : List Nat) (w : World) (w0 : Bs w.heap.size w v0 L0) (hn : trim L0 ≠ []) (hl : (trim L0).length ≤ 64) :
    Calls Try.prog 3 #[v0] w fun e w' => e = .returned (.bool true) ∧ Below w.heap.size w w' := by
  have H0 := hid_of w0
  have hT := byt_trim w0.1
  have HF := hid_of (rc_few hT (trim_trim L0) hn)
  obtain ⟨T, hTe⟩ : ∃ T, trim L0 = T := ⟨_, rfl⟩
  have HTE := hid_of hTe
  rw [hTe] at HF hT hl hn
  have HT := hid_of hT
  obtain ⟨n, hne⟩ : ∃ n, T.length = n := ⟨_, rfl⟩
  have HN := hid_of hne
  have HL := hid_of hl
  have hp : 0 < n := by rw [← hne]; exact List.length_pos_iff.2 hn
  rw [hne] at hl
  have z1 : ((n : Int) == 0) = false := by rw [beq_eq_false_iff_ne]; omega
  have z2 : decide ((64 : Int) < (n : Int)) = false := decide_eq_false (by omega)
  have z3 : decide (64 < n) = false := decide_eq_false (by omega)
  clear w0 hTe hT hne hl hn
  go_enter Try.func3, Try.ntmps3
  go_wp2_with fail
  refine (begun_any _).mono ?_
  rintro e w1 ⟨rfl, hB1⟩
  go_wp2_with fail
  refine (trim_any _ L0 _ ((H0.out.below hB1).mono hB1.size)).mono ?_
  rintro e w2 ⟨vt, rfl, hO, hB2⟩
  rw [HTE.out] at hO
  obtain ⟨at', ct, hsh⟩ := hO.shape
  rw [HN.out] at hsh
  subst hsh
  have BB := hid_of (hB1.trans (hB2.mono hB1.size))
  have Ht := hid_of hO.bs
  clear hO hB1 hB2
  go_wp2_with fail
  go_loopw [4, 5] (fun r i w' => ∃ k : Nat, k ≤ 256 ∧ r = .int .i64 (rc T k) ∧ i = .int .i64 k ∧ Hid (Below w2.heap.size w2 w')) (fun _ i _ => 256 - (intOf i).toNat)
  case atStart => exact ⟨0, by omega, rfl, rfl, Below.refl _ _⟩
  case round =>
    obtain ⟨k, hk, rfl, rfl, HB⟩ := hrel
    have hrk := rc_le T k
    by_cases hlt : k < 256
    · have hw := wrap_u8 hlt
      have hr : rc T (k + 1) = rc T k + if pval T k = 0 then 1 else 0 := rfl
      have hpl := pval_lt HT.out k
      go_wp2_with fail
      refine (value_any _ _ (by omega) (by omega) T _ ((Ht.out.below HB.out).mono HB.out.size)).mono ?_
      rintro e w3 ⟨rfl, hB3⟩
      rw [Int.toNat_natCast]
      have B3 := hid_of (HB.out.trans (hB3.mono HB.out.size))
      clear hB3 HB
      by_cases hz : pval T k = 0
      · rw [if_pos hz] at hr
        have HR := hid_of hr
        have HZ := hid_of (root_rest HT.out hlt hz)
        have hz1 : (((pval T k : Nat) : Int) != 0) = false := by rw [hz]; rfl
        have n0 := hid_of (show trim [k, 1] ≠ [] by rw [trim_lin]; simp)
        have hl2 := hid_of (bs_lit2 (w := w3) k hlt)
        have B4 := hid_of (B3.out.alloc B3.out.size (.cells #[.int .u8 (k : Nat), .int .u8 1] 5))
        clear hr hz
        go_wp2_with fail
        refine (div_any _ _ T [k, 1] _ ((Ht.out.below B4.out).mono B4.out.size) (hl2.out.mono (by simp)) HL.out (by simp) n0.out).mono ?_
        rintro e w5 ⟨vq, vr, rfl, hQ, hR, hB5⟩
        rw [HZ.out] at hR
        obtain ⟨ar, cr, hsh⟩ := hR.shape
        subst hsh
        have B5 := hid_of (B4.out.trans (hB5.mono B4.out.size))
        clear hQ hR hB5
        go_wp2_with fail
        go_roundw
        case rel => exact ⟨k + 1, by omega, by rw [HR.out]; go_num, by go_num, B5⟩
        case measure => simp [intOf]; omega
      · rw [if_neg hz] at hr
        have HR := hid_of hr
        have hz1 : (((pval T k : Nat) : Int) != 0) = true := by rw [bne_iff_ne]; omega
        clear hr
        go_wp2_with fail
        go_roundw
        case rel => exact ⟨k + 1, by omega, by rw [HR.out]; rfl, by go_num, B3⟩
        case measure => simp [intOf]; omega
    · have hke : k = 256 := by omega
      subst hke
      have hf : rc T 256 < n := by rw [← HN.out]; exact HF.out
      have z5 : decide ((rc T 256 : Int) < (n : Int)) = true := decide_eq_true (by omega)
      have z6 : decide (rc T 256 < n) = true := decide_eq_true hf
      go_wp2_with fail
      go_ret
      exact ⟨rfl, BB.out.trans (HB.out.mono BB.out.size)⟩
set_option maxRecDepth 100000 in
set_option maxHeartbeats 4000000 in
theorem walk_no (v0 : Value) (L0 : List Nat) (w : World) (w0 : Bs w.heap.size w v0 L0) (hn : trim L0 = [] ∨ 64 < (trim L0).length) :
    Calls Try.prog 3 #[v0] w fun e w' => e = .returned (.bool true) ∧ Below w.heap.size w w' := by
  have H0 := hid_of w0
  obtain ⟨n, hne⟩ : ∃ n, (trim L0).length = n := ⟨_, rfl⟩
  have HN := hid_of hne
  have hc : n = 0 ∨ 64 < n := by
    rcases hn with h | h
    · left; rw [← hne, h]; rfl
    · right; omega
  clear w0 hne hn
  go_enter Try.func3, Try.ntmps3
  go_wp2_with fail
  refine (begun_any _).mono ?_
  rintro e w1 ⟨rfl, hB1⟩
  go_wp2_with fail
  refine (trim_any _ L0 _ ((H0.out.below hB1).mono hB1.size)).mono ?_
  rintro e w2 ⟨vt, rfl, hO, hB2⟩
  obtain ⟨at', ct, hsh⟩ := hO.shape
  rw [HN.out] at hsh
  subst hsh
  have BB := hid_of (hB1.trans (hB2.mono hB1.size))
  clear hO hB1 hB2
  rcases hc with h | h
  · subst h
    go_wp2_with fail
    go_ret
    exact ⟨rfl, BB.out⟩
  · have z1 : ((n : Int) == 0) = false := by rw [beq_eq_false_iff_ne]; omega
    have z2 : decide ((64 : Int) < (n : Int)) = true := decide_eq_true (by omega)
    have z3 : decide (64 < n) = true := decide_eq_true (by omega)
    go_wp2_with fail
    go_ret
    exact ⟨rfl, BB.out⟩
theorem walk (v0 : Value) (L0 : List Nat) (w : World) (w0 : Bs w.heap.size w v0 L0) :
    Calls Try.prog 3 #[v0] w fun e w' => e = .returned (.bool true) ∧ Below w.heap.size w w' := by
  by_cases h : trim L0 = [] ∨ 64 < (trim L0).length
  · exact walk_no v0 L0 w w0 h
  · exact walk_ok v0 L0 w w0 (fun e => h (.inl e)) (by omega)

/-! ### THE ROW's STEP: WRITTEN OUT: LEAVE IT -/
set_option maxRecDepth 100000 in
theorem lifted (os : Os) (started : os.Started) (H : Type) (enc : TypeId × Value → H) :
    ReturnsInHanded {} Try.checked os 3 .any (Rows.polyRootsSpec.pre6 enc Try.prog Try.f3 Rows.polyRootsRow.domain false) (Rows.polyRootsSpec.post enc Try.prog Try.f3 false true false false) := by
  refine returnsInHanded_of_change_sized (C := Try.checked) own started (by kernel_rfl) Try.func3
    (ChangeSpec.witness6 (enc := enc) (C := Try.checked) false ⟨#[], #[.slice none 0 0], []⟩ 8 (by kernel_rfl) (by kernel_rfl) (by kernel_rfl) (by kernel_rfl)) ?_
  intro W base args ds gs before hval0 hW hcnd hsz0 _
  have hsz : (DataW.weightsEach Try.prog (Try.f3.params.toList ++ Rows.polyRootsSpec.plain.varTypes Try.prog) (ds ++ gs)).all (· ≤ reachBytes) = true := hsz0
  clear hsz0
  have hval : ∀ (j : Nat) t v, Try.f3.params[j]? = some t → args[j]? = some v → Value.okWide Try.prog W .any base t v := hval0
  have hW' := hW
  obtain ⟨p, q, hA0, hV, rfl, hfz, hnd⟩ := hW
  have hA : DataW.TrodAll enc Try.prog W 0 (fun _ => true) true Try.f3.params.toList args.toList ds p := hA0
  rw [Try.params3] at hA hval hsz
  obtain ⟨v0, vs0, d0, ds0, p0, q0, hargs, rfl, rfl, h0, r0⟩ := trodAll_cons hA
  obtain ⟨rfl, rfl, rfl⟩ := trodAll_nil r0
  obtain rfl : args = #[v0] := by cases args; simp_all
  obtain ⟨rfl, rfl⟩ := trodVars_none hV
  obtain ⟨a0, len0, cap0, rfl⟩ := okWide_slice Try.underlying22 (hval 0 22 v0 rfl rfl)
  have k0 := h0
  have lt0 : ∀ x ∈ p0, x.block < W.heap.size := by obtain ⟨m, hm⟩ := k0; exact DataW.trod_lt m _ _ _ hm
  obtain ⟨L0, w0⟩ : ∃ L, Bs W.heap.size W (.slice a0 len0 cap0) L := by
    obtain ⟨fuel, hf⟩ := h0
    rcases open_ints Try.underlying22 Try.underlying5 (by kernel_rfl) hf with ⟨hcs, _⟩ | ⟨x, l, c, zs, hcs, _, hl, hm, hz, hx, hcell, hwz⟩
    · simp [Value.cells] at hcs
      obtain ⟨rfl, rfl, rfl⟩ := hcs
      exact ⟨[], Bs.nil _ _⟩
    · simp [Value.cells] at hcs
      obtain ⟨rfl, rfl, rfl⟩ := hcs
      have e0 := (Prod.mk.inj hx).1
      have hb := sized_slice hsz (j := 0) (t := 22) (e := 5) rfl (congrArg some e0) Try.underlying22
      rw [show Try.prog.bytesOf 5 = 1 by kernel_rfl] at hb
      simp only [lits, List.length_map, List.length_take, List.length_drop, reachBytes] at hb
      simp only [if_true] at hz
      obtain ⟨L, hL, _⟩ := isRow_bs (.inr ⟨_, rfl, hl, hm, hz, hcell, hwz⟩) (by omega)
      exact ⟨L, hL⟩
  clear hA0 hval0
  refine (walk _ L0 W w0).mono fun e W' ⟨he, bel⟩ => ?_
  subst he
  exact ⟨_, rfl, _, _, _, [], _, [], hW', trodAll_mk1 (shut_bool Try.underlying4 _), (trodAll_cons_mk (Below.trod laidOut (by kernel_rfl) (of_decide_eq_true (by kernel_rfl)) k0 bel lt0) trodAll_mk0), rfl, bel.frame _, fun h => by cases h⟩

theorem over : Rows.polyRootsRow.holds Try.pinned (OpenSpec.ofChange Rows.polyRootsSpec) :=
  OpenClaim.holds_of_wide 3 Try.f3 rfl rfl rfl rfl rfl rfl rfl ⟨rfl, rfl, rfl, rfl, rfl⟩ rfl rfl rfl rfl rfl (by kernel_rfl) Try.func3 (by kernel_rfl)
    (of_decide_eq_true (by kernel_rfl)) (by unfold Func.isWrapper; first | (rw [if_pos (by decide +kernel)]; kernel_rfl) | (rw [if_neg (by decide +kernel)]; exact ⟨rfl, rfl⟩))
    (fun os started H enc _ => lifted os started H enc)

/-- ████ THE STATEMENT ████ -/
theorem proved : Rows.PolyRootsSaid := over
#print axioms proved
end Go.Proofs.Ytlccdceeppfleab.polyRoots
