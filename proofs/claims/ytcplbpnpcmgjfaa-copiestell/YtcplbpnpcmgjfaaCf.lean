/- The reference's StaleOf. -/
import Derived.Test.YtcplbpnpcmgjfaaCe
namespace Go.Proofs.Ytcplbpnpcmgjfaa
open Go.ChangeShapes Go.WideShapes Go.ChangeAt Go.RowKit Go.Shelf
theorem add_pow {a k : Nat} (h : a < 2 ^ k) (hk : k < 13) : IntKind.u64.wrap ((a : Int) + IntKind.u64.wrap (2 ^ k)) = ((a + 2 ^ k : Nat) : Int) := by
  have hk2 : 2 ^ k < 8193 := Nat.lt_succ_of_le (Nat.pow_le_pow_right (by omega) (show k ≤ 13 by omega))
  have : ((2 : Int) ^ k) = ((2 ^ k : Nat) : Int) := by push_cast; rfl
  rw [this, IntKind.wrap_u64, IntKind.wrap_u64]
  clear this
  generalize (2 : Nat) ^ k = P at h hk2 ⊢
  omega
set_option maxRecDepth 100000 in
set_option maxHeartbeats 1000000 in
theorem rstale_any (v : Value) (L : List Cp) (w : World) (hL : Cs w.heap.size w v L) : Calls Try.prog 23 #[v] w fun e w' => e = .returned (.tuple #[.int .u64 (slV L), .int .i64 (clE L)]) ∧ Below w.heap.size w w' := by
  have HL := hid_of hL
  have hmx : Try.prog.follows Departure.mixedOrders = true := by kernel_rfl
  obtain ⟨l2, ao, cap, rfl, lc, _⟩ := hL
  have HN : Hid (∀ c : Cp, cv c = .agg #[.int .i64 c.1.1, .int .i64 c.1.2, .string c.2]) := fun _ => rfl
  have HV : Hid (slV L = if clE L = 0 then slK L (lats L).1 L.length else 0) := rfl
  have HM : Hid (mgV L = if clE L = 0 then lats L else cz) := rfl
  go_enter Try.func23, Try.ntmps23
  go_wp2_with fail
  refine (rmerged_any _ L _ HL.out).mono ?_
  rintro e w1 ⟨rfl, BB⟩
  replace BB := hid_of BB
  have HZ := hid_of (@clE_zero L)
  obtain ⟨q, hq⟩ : ∃ q, clE L = q := ⟨_, rfl⟩
  have HE := hid_of hq
  rw [HN.out]
  rw [hq] at HV HZ HM ⊢
  clear hq
  obtain ⟨⟨⟨i, j⟩, l⟩, hl⟩ : ∃ c, mgV L = c := ⟨_, rfl⟩
  rw [hl] at HM ⊢
  clear hl
  obtain ⟨W, hW, BW, X2, -⟩ := new1 w1 (.cells #[.int .i64 i, .int .i64 j, .string l] 37)
  replace X2 := hid_of (show Bc W _ ((i, j), l) from X2)
  replace BB := hid_of (BB.out.trans (BW.mono BB.out.size))
  clear BW
  by_cases c : q = 0
  · subst c
    have l12 := (HZ.out rfl).1
    replace HM : Hid (lats L = ((i, j), l)) := hid_of ((if_pos rfl).symm.trans HM.out.symm)
    replace HV : Hid (slV L = slK L (i, j) L.length) := hid_of ((HV.out.trans (if_pos rfl)).trans (by rw [HM.out]))
    clear HZ HM
    go_wp2_with fail
    clear hW
    generalize w1.heap.size = g at *
    have HK := hid_of (slK_lt L (i, j))
    go_loopw [6, 7] (fun s x w' => ∃ k : Nat, k ≤ L.length ∧ s = .int .u64 (slK L (i, j) k) ∧ x = .int .i64 k ∧ Hid (Below w.heap.size w w' ∧ Bc w' g ((i, j), l))) (fun _ x _ => L.length - (intOf x).toNat)
    case atStart => exact ⟨0, by omega, rfl, rfl, ⟨BB.out, X2.out⟩⟩
    case round =>
      clear BB X2
      obtain ⟨k, hk, rfl, rfl, HW⟩ := hrel
      by_cases hlt : k < L.length
      · obtain ⟨b', off', rfl, hbn, hx, hy, hz⟩ := (HL.out.below HW.out.1).at hlt
        have HS : Hid (slK L (i, j) (k + 1) = slK L (i, j) k + if slt (L[k]?.getD cz).1 (i, j) = true then 2 ^ k else 0) := rfl
        obtain ⟨⟨⟨p, q⟩, r⟩, hxe⟩ : ∃ p, L[k]?.getD cz = p := ⟨_, rfl⟩
        rw [hxe] at hx hy hz HS
        clear hxe
        have tl : (k : Int) < (L.length : Int) := by omega
        have HC : Hid (∀ w', Below wr.heap.size wr w' → w'.cell? ⟨b', off' + k * 3, none⟩ = some (.int .i64 p) ∧ w'.cell? ⟨b', off' + k * 3 + 1, none⟩ = some (.int .i64 q)) := hid_of (fun w' hw' => ⟨(hw'.cell (p := ⟨b', off' + k * 3, none⟩) (cell_lt hx)).trans hx, (hw'.cell (p := ⟨b', off' + k * 3 + 1, none⟩) (cell_lt hy)).trans hy⟩)
        have HD : Hid (∀ w', Below wr.heap.size wr w' → _) := hid_of fun w' (hw' : Below wr.heap.size wr w') => (HW.out.2.below hw' HW.out.2.lt).cells
        clear hx hy hz
        go_wp2_with fail
        refine wp_region_quiet (C := fun w' => Below wr.heap.size wr w') hmx (by kernel_rfl) ((Below.refl _ _).drew) ?_
        refine QW.out ?_
        repeat
          refine qw_step (fun K hK => ?_)
          go_simp
          first
            | (refine ⟨_, fun w' hw' => rfl, hK _ ?_⟩; clear hK K)
            | (refine ⟨_, fun w' hw' => (by simp only [HC.out w' hw', Result.andThen]; first | exact ⟨rfl, rfl⟩ | exact ⟨trivial, rfl⟩ | rfl), hK _ ?_⟩; clear hK K)
            | (refine ⟨_, fun w' hw' => (by simp only [HD.out w' hw', Result.andThen]; first | exact ⟨rfl, rfl⟩ | exact ⟨trivial, rfl⟩ | rfl), hK _ ?_⟩; clear hK K)
            | (refine ⟨_, fun w' hw' => (rlessB p q i j _).mono (by rintro e w2 ⟨rfl, hB⟩; exact ⟨rfl, hw'.trans (hB.mono hw'.size)⟩), hK _ ?_⟩; clear hK K)
            | (refine hK _ ?_; clear hK K)
        refine qw_nil ?_
        intro wq hq
        have G1 := hid_of (show Below w.heap.size w wq ∧ Bc wq g ((i, j), l) from ⟨HW.out.1.trans (hq.mono HW.out.1.size), HW.out.2.below hq HW.out.2.lt⟩)
        clear hq HC HD HW
        cases hs : slt (p, q) (i, j)
        · replace HS : Hid (slK L (i, j) (k + 1) = slK L (i, j) k) := hid_of (by rw [HS.out, hs]; rfl)
          clear hs
          go_wp2_with fail
          go_roundw
          case rel => exact ⟨k + 1, by omega, by rw [HS.out], by go_num, G1⟩
          case measure => simp [intOf]; omega
        · replace HS : Hid (slK L (i, j) (k + 1) = slK L (i, j) k + 2 ^ k) := hid_of (by rw [HS.out, hs]; rfl)
          clear hs
          have HO := hid_of (add_pow (HK.out k) (by omega))
          go_wp2_with fail
          go_roundw
          case rel => exact ⟨k + 1, by omega, by rw [HO.out, HS.out], by go_num, G1⟩
          case measure => simp [intOf]; omega
      · have tl : ¬ (k : Int) < (L.length : Int) := by omega
        obtain rfl : k = L.length := by omega
        go_wp2_with fail
        refine bodyPost_ret (v := .tuple #[.int .u64 (slK L (i, j) L.length), .int .i64 0]) (by simp [results, Try.results23, go_sem]) rfl ⟨?_, HW.out.1⟩
        rw [HV.out, HE.out]
  · have tq : (q != 0) = true := bne_iff_ne.2 c
    replace HV : Hid (slV L = 0) := hid_of (HV.out.trans (if_neg c))
    clear c
    go_wp2_with fail
    refine bodyPost_ret (v := .tuple #[.int .u64 0, .int .i64 q]) (by simp [results, Try.results23, go_sem]) rfl ⟨?_, BB.out⟩
    rw [HV.out, HE.out]
    rfl
end Go.Proofs.Ytcplbpnpcmgjfaa
