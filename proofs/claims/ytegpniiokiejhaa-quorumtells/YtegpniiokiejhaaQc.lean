/- What quorum.Sum answers. -/
import Derived.Test.YtegpniiokiejhaaQb
import Derived.Laws.Bits64b
namespace Go.Proofs.Ytegpniiokiejhaa
open Go.ChangeShapes Go.WideShapes Go.ChangeAt Go.RowKit Go.Shelf
/-- block b is a box that holds a set -/
def Bu (w : World) (b : Nat) (n : Int) : Prop := w.heap[b]? = some (.cells #[.int .u64 n] 40)
theorem Bu.below {w w' : World} {b : Nat} {n : Int} (h : Bu w b n) (hb : Below w.heap.size w w') : Bu w' b n := (hb.block b (heap_lt h)).trans h
theorem Bu.cell {w : World} {b : Nat} {n : Int} (h : Bu w b n) : w.cell? ⟨b, 0, none⟩ = some (.int .u64 n) := by
  unfold Bu at h
  simp [World.cell?, h]
/-- block b is a box that holds a list -/
def Bl (w : World) (b : Nat) (v : Value) : Prop := w.heap[b]? = some (.cells #[v] 31)
theorem Bl.below {w w' : World} {b : Nat} {v : Value} (h : Bl w b v) (hb : Below w.heap.size w w') : Bl w' b v := (hb.block b (heap_lt h)).trans h
theorem Bl.cell {w : World} {b : Nat} {v : Value} (h : Bl w b v) : w.cell? ⟨b, 0, none⟩ = some v := by
  unfold Bl at h
  simp [World.cell?, h]
/-- what is wrong with a set -/
def qst (n s : Nat) : Int := if s < 2 ^ n then 0 else 3
theorem shr_zero {n s : Nat} (h : s < 2 ^ n) : (((s : Nat) : Int) / 2 ^ n != 0) = false := by
  have e : ((s : Nat) : Int) / 2 ^ n = ((s / 2 ^ n : Nat) : Int) := by push_cast; rfl
  rw [e, Nat.div_eq_of_lt h]
  rfl
theorem shr_pos {n s : Nat} (h : ¬ s < 2 ^ n) : (((s : Nat) : Int) / 2 ^ n != 0) = true := by
  have e : ((s : Nat) : Int) / 2 ^ n = ((s / 2 ^ n : Nat) : Int) := by push_cast; rfl
  have := Nat.div_pos (show 2 ^ n ≤ s by omega) (Nat.two_pow_pos n)
  rw [e, bne_iff_ne]
  omega
set_option maxHeartbeats 1000000 in
theorem Sum1_any (all : Int) (s n c : Nat) (a : Option Addr) (bs bl : Nat) (w : World) (hn : n ≤ 12) (h1 : Bu w bs s) (h2 : Bl w bl (.slice a n c)) :
    Calls Try.prog 43 #[.int .i64 all, .pointer (some ⟨bs, 0, none⟩), .pointer (some ⟨bl, 0, none⟩)] w fun e w' => e = .returned (.int .i64 (qst n s)) ∧ Below w.heap.size w w' := by
  have k1 := h1.cell
  have k2 := h2.cell
  clear h1 h2
  by_cases c1 : s < 2 ^ n
  · have t1 := shr_zero c1
    have HE : Hid (qst n s = 0) := hid_of (by unfold qst; rw [if_pos c1])
    clear c1
    go_enter Try.func43, Try.ntmps43
    go_wp2_with fail
    go_ret
    exact ⟨ret_int HE.out.symm, Below.refl _ _⟩
  · have t1 := shr_pos c1
    have HE : Hid (qst n s = 3) := hid_of (by unfold qst; rw [if_neg c1])
    clear c1
    go_enter Try.func43, Try.ntmps43
    go_wp2_with fail
    go_ret
    exact ⟨ret_int HE.out.symm, Below.refl _ _⟩
theorem cf43 : ∀ (args : Array Value) (W : World), (callFunc 43 args).run Try.prog W = .ok (.enter 43 args) W := fun _ _ => rfl
/-- is i in the set s? -/
def bt (s i : Nat) : Bool := s / 2 ^ i % 2 == 1
theorem and_bit {s : Nat} (hs : s < 18446744073709551616) (i : Nat) : (bits .and .u64 (((s : Nat) : Int) / 2 ^ i) 1 == 1) = bt s i := by
  have e : ((s : Nat) : Int) / 2 ^ i = ((s / 2 ^ i : Nat) : Int) := by push_cast; rfl
  have h := bits_and_u64_nat (s / 2 ^ i) 1 (Nat.lt_of_le_of_lt (Nat.div_le_self _ _) hs) (by omega)
  rw [e, show (1 : Int) = ((1 : Nat) : Int) from rfl, h, Nat.and_one_is_mod]
  unfold bt
  rw [Bool.eq_iff_iff, beq_iff_eq, beq_iff_eq]
  omega
/-- what the first k nodes of a set weigh -/
def sm (L : List Int) (s : Nat) : Nat → Int
  | 0 => 0
  | k + 1 => sm L s k + if bt s k = true then L[k]?.getD 0 else 0
theorem Wok.sm {L : List Int} (h : Wok L) (s : Nat) : ∀ k, k ≤ L.length → 0 ≤ sm L s k ∧ Go.Proofs.Ytegpniiokiejhaa.sm L s k ≤ 100 * (k : Int)
  | 0, _ => by simp [Go.Proofs.Ytegpniiokiejhaa.sm]
  | k + 1, hk => by
    have ih := h.sm s k (by omega)
    have hx := h.at (show k < L.length by omega)
    simp only [Go.Proofs.Ytegpniiokiejhaa.sm]
    push_cast
    split <;> omega
/-- Sum's error -/
def smE (L : List Int) (s : Nat) : Int := qcs (qce L) (qst L.length s)
/-- Sum's answer -/
def smV (L : List Int) (s : Nat) : Int := if smE L s = 0 then sm L s L.length else 0
theorem sm_zero {L : List Int} {s : Nat} (h : smE L s = 0) : Wok L ∧ s < 2 ^ L.length := by
  unfold smE qcs at h
  split at h
  · rename_i c
    unfold qst at h
    split at h
    · exact ⟨qce_ok c, by assumption⟩
    · omega
  · omega
theorem sm_of {L : List Int} {s : Nat} (h : Wok L) (hs : s < 2 ^ L.length) : smE L s = 0 := by
  unfold smE qcs
  rw [if_pos (qce_of h)]
  unfold qst
  rw [if_pos hs]
set_option maxHeartbeats 1000000 in
theorem Sum_any (v : Value) (L : List Int) (s : Nat) (w : World) (hs64 : s < 18446744073709551616) (hL : Is w.heap.size w v L) :
    Calls Try.prog 21 #[v, .int .u64 s] w fun e w' => e = .returned (.tuple #[.int .i64 (smV L s), .int .i64 (smE L s)]) ∧ Below w.heap.size w w' := by
  obtain ⟨b0, b1, b2⟩ := box2 w (.cells #[v] 31) (.cells #[.int .u64 s] 40)
  have B0 := hid_of b0
  have B1 := hid_of (show Bl _ _ _ from b1)
  have B2 := hid_of (show Bu _ _ _ from b2)
  have HL := hid_of hL
  have HZ := hid_of (@sm_zero L s)
  have HV : Hid (smV L s = if smE L s = 0 then sm L s L.length else 0) := rfl
  have HE : Hid (smE L s = qcs (qce L) (qst L.length s)) := rfl
  obtain ⟨a, c, rfl⟩ := hL.shape
  have hl2 := hL.1
  generalize smV L s = u at HV ⊢
  generalize smE L s = x at HV HZ HE ⊢
  clear b0 b1 b2 hL
  go_enter Try.func21, Try.ntmps21
  go_wp2_with fail
  generalize (w.alloc (.cells #[.slice a L.length c] 31)).alloc (.cells #[.int .u64 s] 40) = W at *
  refine (chk_any _ L 43 #[.pointer (some ⟨w.heap.size + 1, 0, none⟩), .pointer (some ⟨w.heap.size, 0, none⟩)] (qst L.length s) _ ((HL.out.below B0.out).mono B0.out.size) cf43 (fun h0 W' hW => Sum1_any L.sum s L.length c a _ _ W' (qce_ok h0).l2 (B2.out.below hW) (B1.out.below hW))).mono ?_
  rintro e w1 ⟨rfl, h1⟩
  rw [← HE.out]
  have HB := hid_of (B0.out.trans (h1.mono B0.out.size))
  have HI := hid_of ((HL.out.below HB.out).mono HB.out.size)
  have k1 := (B1.out.below h1).cell
  have k2 := (B2.out.below h1).cell
  clear h1 HE HL B0 B1 B2
  by_cases c0 : x = 0
  · obtain ⟨hW, hs⟩ := HZ.out c0
    have HW := hid_of hW
    have hl := hW.l2
    subst c0
    rw [if_pos rfl] at HV
    clear hW HZ
    go_wp2_with fail
    go_loopw [7, 18] (fun y i w' => ∃ k : Nat, k ≤ L.length ∧ y = .int .i64 (sm L s k) ∧ i = .int .i64 k ∧ w' = w1) (fun _ i _ => L.length - (intOf i).toNat)
    case atStart => exact ⟨0, by omega, rfl, rfl, rfl⟩
    case round =>
      obtain ⟨k, hk, rfl, rfl, hw⟩ := hrel
      subst hw
      obtain ⟨q1, q2⟩ := HW.out.sm s k hk
      by_cases hlt : k < L.length
      · obtain ⟨b, off, rfl, hx⟩ := HI.out.at hlt
        obtain ⟨x1, x2⟩ := HW.out.at hlt
        have HT : Hid (sm L s (k + 1) = sm L s k + if bt s k = true then L[k]?.getD 0 else 0) := rfl
        obtain ⟨x, hxe⟩ : ∃ x, L[k]?.getD 0 = x := ⟨_, rfl⟩
        rw [hxe] at hx HT x1 x2
        clear hxe
        have HAB := hid_of (and_bit hs64 k)
        have hb := and_bit hs64 k
        clear HAB
        cases c5 : bt s k
        · rw [c5] at hb HT
          have HT2 : Hid (sm L s (k + 1) = sm L s k) := hid_of (by rw [HT.out]; simp)
          clear c5 HT
          generalize hy : sm L s k = y at *
          have HY := hid_of hy
          clear hy
          go_wp2_with fail
          go_roundw
          case rel => exact ⟨k + 1, by omega, by rw [HT2.out], by go_num, trivial⟩
          case measure => simp [intOf]; omega
        · rw [c5] at hb HT
          have HT2 : Hid (sm L s (k + 1) = sm L s k + x) := hid_of (by rw [HT.out]; simp)
          clear c5 HT
          generalize hy : sm L s k = y at *
          have HY := hid_of hy
          clear hy
          go_wp2_with fail
          go_roundw
          case rel => exact ⟨k + 1, by omega, by rw [HT2.out], by go_num, trivial⟩
          case measure => simp [intOf]; omega
      · have hke : k = L.length := by omega
        subst hke
        have hv := HV.out
        subst hv
        go_wp2_with fail
        go_ret2
        exact ⟨rfl, HB.out⟩
  · have tx : (x != 0) = true := by rw [bne_iff_ne]; exact c0
    rw [if_neg c0] at HV
    have hv := HV.out
    subst hv
    go_wp2_with fail
    go_ret2
    exact ⟨rfl, HB.out⟩
end Go.Proofs.Ytegpniiokiejhaa
