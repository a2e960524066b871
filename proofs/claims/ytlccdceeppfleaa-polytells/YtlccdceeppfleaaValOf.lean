/- What the reference's ValueOf answers: the value of a list at a place, factor by factor by powers, for all lists of bytes. -/
import Derived.Test.YtlccdceeppfleaaZero
namespace Go.Proofs.Ytlccdceeppfleaa
open Go.ChangeShapes Go.WideShapes Go.ChangeAt Go.RowKit Go.Shelf
set_option maxRecDepth 100000 in
set_option maxHeartbeats 1000000 in
theorem valueOf_any (v : Value) (X : Nat) (hX : X < 256) (zs : List Nat) (n : Nat) (w : World) (hI : Bs n w v zs) :
    Calls Try.prog 20 #[v, .int .u8 X] w fun e w' => e = .returned (.int .u8 (pval zs X)) ∧ w' = w := by
  obtain ⟨a1, a2, ao, cap, rfl, _, _, a6⟩ := hI
  have A6 := hid_of a6
  have A1 := hid_of a1
  clear a6 a1
  go_enter Try.func20, Try.ntmps20
  go_wp2_with fail
  go_loopw [5, 6, 7] (fun s p i w' => ∃ k : Nat, k ≤ zs.length ∧ s = .int .u8 (pval (zs.take k) X) ∧ p = .int .u8 (px X k) ∧ i = .int .i64 k ∧ w' = w) (fun _ _ i _ => zs.length - (intOf i).toNat)
  case atStart => exact ⟨0, by omega, rfl, rfl, rfl, rfl⟩
  case round =>
    obtain ⟨k, hk, rfl, rfl, rfl, rfl⟩ := hrel
    by_cases hlt : k < zs.length
    · rcases A6.out with h | ⟨b, off, rfl, hb, hc⟩
      · rw [h] at hlt; simp at hlt
      have hx := hc k hlt
      have hx2 := getD_lt A1.out k
      have hs := pval_snoc (byt_take A1.out k) hx2 hX
      rw [List.length_take, Nat.min_eq_left hk] at hs
      have ht : zs.take (k + 1) = zs.take k ++ [zs[k]?.getD 0] := by
        rw [List.take_succ_eq_append_getElem hlt, List.getElem?_eq_getElem hlt]; rfl
      rw [← ht] at hs
      have hp := px_lt hX k
      have hv := pval_lt (byt_take A1.out k) X
      obtain ⟨x, hxe⟩ : ∃ x, zs[k]?.getD 0 = x := ⟨_, rfl⟩
      rw [hxe] at hx hx2 hs
      have hq : px X (k + 1) = Gf.gm (px X k) X := rfl
      have hg : Gf.gm x (px X k) < 256 := Gf.gm_lt hx2
      obtain ⟨p, hpe⟩ : ∃ p, px X k = p := ⟨_, rfl⟩
      obtain ⟨u, hue⟩ : ∃ u, pval (zs.take k) X = u := ⟨_, rfl⟩
      rw [hpe, hue] at hs
      rw [hpe] at hq hp hg ⊢
      rw [hue] at hv ⊢
      have HS := hid_of hs
      have HQ := hid_of hq
      have h7 := u8_xor_nat u _ hv hg
      clear hc hs hq ht hxe hpe hue
      go_wp2_with fail
      refine (mulOf_int _ _ _ (by omega) (by omega) (by omega) (by omega)).mono ?_
      rintro e w2 ⟨rfl, rfl⟩
      rw [Int.toNat_natCast, Int.toNat_natCast]
      go_wp2_with fail
      refine (mulOf_int _ _ _ (by omega) (by omega) (by omega) (by omega)).mono ?_
      rintro e w2 ⟨rfl, rfl⟩
      rw [Int.toNat_natCast, Int.toNat_natCast]
      go_wp2_with fail
      go_roundw
      case rel => exact ⟨k + 1, by omega, by rw [HS.out], by rw [HQ.out], by go_num, trivial⟩
      case measure => simp [intOf]; omega
    · have ht : zs.take k = zs := List.take_of_length_le (by omega)
      have HT := hid_of ht
      clear ht
      go_wp2_with fail
      go_ret
      exact ⟨congrArg (fun L => Ending.returned (.int .u8 (pval L X : Nat))) HT.out, rfl⟩
end Go.Proofs.Ytlccdceeppfleaa
