/- Stale. -/
import Derived.Test.YtcplbpnpcmgjfaaCc
namespace Go.Proofs.Ytcplbpnpcmgjfaa
open Go.ChangeShapes Go.WideShapes Go.ChangeAt Go.RowKit Go.Shelf
theorem fieldC (i j : Int) (l : ByteArray) (w : World) : Sem.run Try.prog (Instr.field 37 (.agg #[.int .i64 i, .int .i64 j, .string l]) 0) w = .ok (.agg #[.int .i64 i, .int .i64 j]) w := by
  kernel_rfl
theorem or_pow {a k : Nat} (h : a < 2 ^ k) (hk : k < 64) : bits .or .u64 (a : Int) (IntKind.u64.wrap (2 ^ k)) = ((a + 2 ^ k : Nat) : Int) := by
  have hk2 : 2 ^ k < 18446744073709551616 := Nat.pow_lt_pow_right (by omega) hk
  have e : IntKind.u64.wrap ((2 : Int) ^ k) = ((2 ^ k : Nat) : Int) := by
    have : ((2 : Int) ^ k) = ((2 ^ k : Nat) : Int) := by push_cast; rfl
    rw [this, IntKind.wrap_u64]
    clear this
    generalize (2 : Nat) ^ k = P at hk2 ⊢
    omega
  rw [e, bits_or_u64_nat a (2 ^ k) (by omega) hk2, Nat.or_comm]
  have := Nat.two_pow_add_eq_or_of_lt h 1
  rw [Nat.mul_one] at this
  rw [← this, Nat.add_comm]
/-- the first k of copies whose stamp is below m, as a set -/
def slK (L : List Cp) (m : St) : Nat → Nat
  | 0 => 0
  | k + 1 => slK L m k + if slt (L[k]?.getD cz).1 m = true then 2 ^ k else 0
theorem slK_lt (L : List Cp) (m : St) : ∀ k, slK L m k < 2 ^ k
  | 0 => by simp [slK]
  | k + 1 => by
    have := slK_lt L m k
    rw [slK, Nat.pow_succ]
    split <;> omega
/-- Stale's answer (its error: clE) -/
def slV (L : List Cp) : Nat := if clE L = 0 then slK L (lats L).1 L.length else 0
set_option maxRecDepth 100000 in
set_option maxHeartbeats 1000000 in
theorem stale_any (v : Value) (L : List Cp) (w : World) (hL : Cs w.heap.size w v L) : Calls Try.prog 20 #[v] w fun e w' => e = .returned (.tuple #[.int .u64 (slV L), .int .i64 (clE L)]) ∧ Below w.heap.size w w' := by
  have HL := hid_of hL
  obtain ⟨l2, ao, cap, rfl, lc, _⟩ := hL
  have HV : Hid (slV L = if clE L = 0 then slK L (lats L).1 L.length else 0) := rfl
  go_enter Try.func20, Try.ntmps20
  go_wp2_with fail
  refine (checkList_any _ L _ HL.out).mono ?_
  rintro e w1 ⟨rfl, BB⟩
  replace BB := hid_of BB
  have HZ := hid_of (@clE_zero L)
  obtain ⟨q, hq⟩ : ∃ q, clE L = q := ⟨_, rfl⟩
  have HE := hid_of hq
  rw [hq] at HV HZ ⊢
  clear hq
  by_cases c : q = 0
  · subst c
    have l12 := (HZ.out rfl).1
    replace HV : Hid (slV L = slK L (lats L).1 L.length) := hid_of (HV.out.trans (if_pos rfl))
    go_wp2_with fail
    refine (latest_any _ L _ ((HL.out.below BB.out).mono BB.out.size)).mono ?_
    rintro e w2 ⟨rfl, h2⟩
    replace BB := hid_of (BB.out.trans (h2.mono BB.out.size))
    clear h2
    obtain ⟨⟨⟨i, j⟩, l⟩, hl⟩ : ∃ c, lats L = c := ⟨_, rfl⟩
    rw [hl] at HV ⊢
    clear hl
    obtain ⟨W, hW, BW, X2, -⟩ := new1 w2 (.cells #[.int .i64 i, .int .i64 j] 23)
    replace X2 := hid_of (show Bs W _ (i, j) from X2)
    replace BB := hid_of (BB.out.trans (BW.mono BB.out.size))
    clear BW
    have HF := fieldC i j l w2
    go_wp2_with fail
    clear hW HF
    generalize w2.heap.size = g at *
    have HK := hid_of (slK_lt L (i, j))
    go_loopw [6, 19] (fun s x w' => ∃ k : Nat, k ≤ L.length ∧ s = .int .u64 (slK L (i, j) k) ∧ x = .int .i64 k ∧ Hid (Below w.heap.size w w' ∧ Bs w' g (i, j))) (fun _ x _ => L.length - (intOf x).toNat)
    case atStart => exact ⟨0, by omega, rfl, rfl, ⟨BB.out, X2.out⟩⟩
    case round =>
      clear BB X2
      obtain ⟨k, hk, rfl, rfl, HW⟩ := hrel
      by_cases hlt : k < L.length
      · obtain ⟨b', off', rfl, hbn, hx, hy, hz⟩ := (HL.out.below HW.out.1).at hlt
        have HS : Hid (slK L (i, j) (k + 1) = slK L (i, j) k + if slt (L[k]?.getD cz).1 (i, j) = true then 2 ^ k else 0) := rfl
        obtain ⟨⟨⟨p, q⟩, r⟩, hxe⟩ : ∃ p, L[k]?.getD cz = p := ⟨_, rfl⟩
        rw [hxe] at hx hy hz HS
        clear hxe
        have tl : (k : Int) < (L.length : Int) := by omega
        obtain ⟨V, hV, BV, XV, -⟩ := new1 wr (.cells #[.int .i64 p, .int .i64 q, .string r] 37)
        have M1 := hid_of (HW.out.2.below BV HW.out.2.lt)
        have G1 := hid_of (HW.out.1.trans (BV.mono HW.out.1.size))
        obtain ⟨m0, m1⟩ := M1.out.cells
        obtain ⟨v0, v1, v2⟩ := cells3 XV
        replace BV := hid_of BV
        replace XV := hid_of XV
        go_wp2_with fail
        refine (lessS_at _ _ _ _ _).mono ?_
        rintro e w2 ⟨rfl, h2⟩
        replace G1 := hid_of (G1.out.trans (h2.mono G1.out.size))
        replace M1 := hid_of (M1.out.below h2 M1.out.lt)
        clear h2 hV XV v0 v1 v2 m0 m1 hx hy hz BV HW
        cases hs : slt (p, q) (i, j)
        · replace HS : Hid (slK L (i, j) (k + 1) = slK L (i, j) k) := hid_of (by rw [HS.out, hs]; rfl)
          clear hs
          go_wp2_with fail
          go_roundw
          case rel => exact ⟨k + 1, by omega, by rw [HS.out], by go_num, ⟨G1.out, M1.out⟩⟩
          case measure => simp [intOf]; omega
        · replace HS : Hid (slK L (i, j) (k + 1) = slK L (i, j) k + 2 ^ k) := hid_of (by rw [HS.out, hs]; rfl)
          clear hs
          have HO := hid_of (or_pow (HK.out k) (by omega))
          go_wp2_with fail
          go_roundw
          case rel => exact ⟨k + 1, by omega, by rw [HO.out, HS.out], by go_num, ⟨G1.out, M1.out⟩⟩
          case measure => simp [intOf]; omega
      · have tl : ¬ (k : Int) < (L.length : Int) := by omega
        obtain rfl : k = L.length := by omega
        go_wp2_with fail
        refine bodyPost_ret (v := .tuple #[.int .u64 (slK L (i, j) L.length), .int .i64 0]) (by simp [results, Try.results20, go_sem]) rfl ⟨?_, HW.out.1⟩
        rw [HV.out, HE.out]
  · have tq : (q != 0) = true := bne_iff_ne.2 c
    replace HV : Hid (slV L = 0) := hid_of (HV.out.trans (if_neg c))
    clear c
    go_wp2_with fail
    refine bodyPost_ret (v := .tuple #[.int .u64 0, .int .i64 q]) (by simp [results, Try.results20, go_sem]) rfl ⟨?_, BB.out⟩
    rw [HV.out, HE.out]
    rfl
end Go.Proofs.Ytcplbpnpcmgjfaa
