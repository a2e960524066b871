/- A text of words of which one bit each may have turned: the laws of it, as lists. -/
import Derived.Test.YtiiickinlklelabDoorRa
import Derived.Test.YtiiickinlklelabDoorLd
import Derived.SizedLaws
namespace Go.Proofs.YtiiickinlklelabDoor
open Go.ChangeShapes Go.WideShapes Go.ChangeAt Go.RowKit Go.Shelf
/-- a list of whole numbers in memory below block n -/
def Is (n : Nat) (w : World) (v : Value) (L : List Int) : Prop :=
  L.length ≤ 140737488351232 ∧ ∃ ao cap, v = .slice ao L.length cap ∧ L.length ≤ cap ∧
    (L = [] ∨ ∃ b off, ao = some ⟨b, off, none⟩ ∧ b < n ∧ ∀ j, j < L.length → w.cell? ⟨b, off + j, none⟩ = some (.int .i64 (L[j]?.getD 0)))
/-- turn j of the list -/
def tj (T : List Int) (j : Nat) : Int := T[j]?.getD 0
def inr (x : Int) : Bool := decide (0 ≤ x) && decide (x ≤ 12)
/-- word j, once k turns are made -/
def tw (S : List Nat) (T : List Int) (k j : Nat) : Nat := if j < k ∧ inr (tj T j) = true then Wd.wr (S[j]?.getD 0) ^^^ 2 ^ (tj T j).toNat else Wd.wr (S[j]?.getD 0)
/-- how many of the first k turns are turns -/
def tc (T : List Int) : Nat → Nat
  | 0 => 0
  | k + 1 => tc T k + if inr (tj T k) = true then 1 else 0
theorem tc_le (T : List Int) : ∀ k, tc T k ≤ k
  | 0 => Nat.le_refl _
  | k + 1 => by
    have := tc_le T k
    unfold tc
    split <;> omega
theorem S_lt {S : List Nat} (hS : ∀ x ∈ S, x < 256) (j : Nat) : S[j]?.getD 0 < 256 := by
  by_cases h : j < S.length
  · rw [List.getElem?_eq_getElem h]; exact hS _ (List.getElem_mem h)
  · rw [List.getElem?_eq_none (by omega)]; decide
theorem tw_lt {S : List Nat} (hS : ∀ x ∈ S, x < 256) (T : List Int) (k j : Nat) : tw S T k j < 8192 := by
  have h := wr_lt (S_lt hS j)
  unfold tw
  split
  · rename_i c
    have h2 : (tj T j).toNat < 13 := by
      have := c.2
      simp [inr] at this
      omega
    exact Nat.xor_lt_two_pow (n := 13) h (Nat.pow_lt_pow_right (m := (tj T j).toNat) (n := 13) (by decide) h2)
  · exact h
/-- the bytes of all words, once k turns are made -/
def tby (S : List Nat) (T : List Int) (k i : Nat) : Nat := if i % 2 = 0 then tw S T k (i / 2) / 256 else tw S T k (i / 2) % 256
def ta (S : List Nat) (T : List Int) (k : Nat) : List Nat := (List.range (2 * S.length)).map (tby S T k)
theorem ta_len (S : List Nat) (T : List Int) (k : Nat) : (ta S T k).length = 2 * S.length := by simp [ta]
theorem ta_get {S : List Nat} {T : List Int} {k i : Nat} (h : i < 2 * S.length) : (ta S T k)[i]?.getD 0 = tby S T k i := by simp [ta, h]
theorem tby_lt {S : List Nat} (hS : ∀ x ∈ S, x < 256) (T : List Int) (k i : Nat) : tby S T k i < 256 := by
  have := tw_lt hS T k (i / 2)
  unfold tby
  split <;> omega
theorem wa_get : ∀ (S : List Nat) (i : Nat), i < 2 * S.length → (wa S)[i]?.getD 0 = if i % 2 = 0 then Wd.wr (S[i / 2]?.getD 0) / 256 else Wd.wr (S[i / 2]?.getD 0) % 256
  | [], i, h => by simp at h
  | x :: S, 0, _ => by simp [wa]
  | x :: S, 1, _ => by simp [wa]
  | x :: S, i + 2, h => by
    have ih := wa_get S i (by simp at h; omega)
    have e : (wa (x :: S))[i + 2]? = (wa S)[i]? := by simp [wa]
    rw [e, ih, show (i + 2) % 2 = i % 2 by omega, show (i + 2) / 2 = i / 2 + 1 by omega]
    simp
theorem wa_lt {S : List Nat} (hS : ∀ x ∈ S, x < 256) : ∀ x ∈ wa S, x < 256 := by
  intro x hx
  simp only [wa, List.mem_flatMap] at hx
  obtain ⟨y, hy, hx⟩ := hx
  have := wr_lt (hS y hy)
  simp at hx
  omega
theorem tby_zero {S : List Nat} {T : List Int} {i : Nat} (h : i < 2 * S.length) : (wa S)[i]?.getD 0 = tby S T 0 i := by
  rw [wa_get S i h]
  unfold tby tw
  simp
theorem tw_succ {S : List Nat} {T : List Int} {k j : Nat} : tw S T (k + 1) j = if j = k ∧ inr (tj T k) = true then tw S T k k ^^^ 2 ^ (tj T k).toNat else tw S T k j := by
  unfold tw
  by_cases e : j = k
  · subst e
    by_cases h : inr (tj T j) = true
    · rw [if_pos ⟨by omega, h⟩, if_pos ⟨rfl, h⟩, if_neg (by omega)]
    · rw [if_neg (fun c => h c.2), if_neg (fun c => h c.2), if_neg (fun c => h c.2)]
  · rw [if_neg (c := j = k ∧ _) (fun c => e c.1)]
    by_cases h : j < k ∧ inr (tj T j) = true
    · rw [if_pos h, if_pos ⟨by omega, h.2⟩]
    · rw [if_neg h, if_neg (fun c => h ⟨by omega, c.2⟩)]
theorem tby_even {S : List Nat} {T : List Int} {k i : Nat} (h : i % 2 = 0) : tby S T k i = tw S T k (i / 2) / 256 := if_pos h
theorem tby_odd {S : List Nat} {T : List Int} {k i : Nat} (h : ¬ i % 2 = 0) : tby S T k i = tw S T k (i / 2) % 256 := if_neg h
/-- no turn -/
theorem tby_skip {S : List Nat} {T : List Int} {k : Nat} (h : inr (tj T k) = false) (i : Nat) : tby S T (k + 1) i = tby S T k i := by
  have e : tw S T (k + 1) (i / 2) = tw S T k (i / 2) := by
    rw [tw_succ]
    exact if_neg (fun c => by rw [h] at c; cases c.2)
  unfold tby
  rw [e]
theorem xor_hi (W t : Nat) (ht : 8 ≤ t) : (W ^^^ 2 ^ t) / 256 = W / 256 ^^^ 2 ^ (t - 8) ∧ (W ^^^ 2 ^ t) % 256 = W % 256 := by
  obtain ⟨u, rfl⟩ : ∃ u, t = 8 + u := ⟨t - 8, by omega⟩
  have e : (2 : Nat) ^ (8 + u) = 256 * 2 ^ u := by rw [Nat.pow_add]
  have h1 : (W ^^^ 2 ^ (8 + u)) / 2 ^ 8 = W / 2 ^ 8 ^^^ 2 ^ (8 + u) / 2 ^ 8 := Nat.xor_div_two_pow
  have h2 : (W ^^^ 2 ^ (8 + u)) % 2 ^ 8 = W % 2 ^ 8 ^^^ 2 ^ (8 + u) % 2 ^ 8 := Nat.xor_mod_two_pow
  have e1 : (2 : Nat) ^ (8 + u) / 2 ^ 8 = 2 ^ u := by rw [e]; exact Nat.mul_div_cancel_left _ (by decide)
  have e2 : (2 : Nat) ^ (8 + u) % 2 ^ 8 = 0 := by rw [e]; exact Nat.mul_mod_right _ _
  rw [e1] at h1
  rw [e2, Nat.xor_zero] at h2
  rw [show 8 + u - 8 = u by omega]
  exact ⟨h1, h2⟩
theorem xor_lo (W t : Nat) (ht : t < 8) : (W ^^^ 2 ^ t) / 256 = W / 256 ∧ (W ^^^ 2 ^ t) % 256 = W % 256 ^^^ 2 ^ t := by
  have h1 : (W ^^^ 2 ^ t) / 2 ^ 8 = W / 2 ^ 8 ^^^ 2 ^ t / 2 ^ 8 := Nat.xor_div_two_pow
  have h2 : (W ^^^ 2 ^ t) % 2 ^ 8 = W % 2 ^ 8 ^^^ 2 ^ t % 2 ^ 8 := Nat.xor_mod_two_pow
  have hp : (2 : Nat) ^ t < 2 ^ 8 := Nat.pow_lt_pow_right (by decide) ht
  rw [Nat.div_eq_of_lt hp, Nat.xor_zero] at h1
  rw [Nat.mod_eq_of_lt hp] at h2
  exact ⟨h1, h2⟩
/-- a turn of the greater byte -/
theorem tby_hi {S : List Nat} {T : List Int} {k : Nat} (h : inr (tj T k) = true) (h8 : 8 ≤ tj T k) (i : Nat) :
    tby S T (k + 1) i = if i = 2 * k then tby S T k (2 * k) ^^^ 2 ^ (tj T k - 8).toNat else tby S T k i := by
  have hx := xor_hi (tw S T k k) (tj T k).toNat (by omega)
  have e8 : (tj T k).toNat - 8 = (tj T k - 8).toNat := by omega
  rw [e8] at hx
  by_cases e2 : i / 2 = k
  · have t : tw S T (k + 1) (i / 2) = tw S T k k ^^^ 2 ^ (tj T k).toNat := by rw [tw_succ]; exact if_pos ⟨e2, h⟩
    by_cases c : i % 2 = 0
    · have e : i = 2 * k := by omega
      rw [if_pos e, tby_even c, t, hx.1, tby_even (show 2 * k % 2 = 0 by omega), show 2 * k / 2 = k by omega]
    · rw [if_neg (by omega), tby_odd c, t, hx.2, tby_odd c, e2]
  · have t : tw S T (k + 1) (i / 2) = tw S T k (i / 2) := by rw [tw_succ]; exact if_neg (fun c => e2 c.1)
    rw [if_neg (by omega)]
    unfold tby
    rw [t]
/-- a turn of the lesser byte -/
theorem tby_lo {S : List Nat} {T : List Int} {k : Nat} (h : inr (tj T k) = true) (h8 : tj T k < 8) (i : Nat) :
    tby S T (k + 1) i = if i = 2 * k + 1 then tby S T k (2 * k + 1) ^^^ 2 ^ (tj T k).toNat else tby S T k i := by
  have h0 : 0 ≤ tj T k := by simp [inr] at h; omega
  have hx := xor_lo (tw S T k k) (tj T k).toNat (by omega)
  by_cases e2 : i / 2 = k
  · have t : tw S T (k + 1) (i / 2) = tw S T k k ^^^ 2 ^ (tj T k).toNat := by rw [tw_succ]; exact if_pos ⟨e2, h⟩
    by_cases c : i % 2 = 0
    · rw [if_neg (by omega), tby_even c, t, hx.1, tby_even c, e2]
    · have e : i = 2 * k + 1 := by omega
      rw [if_pos e, tby_odd c, t, hx.2, tby_odd (show ¬ (2 * k + 1) % 2 = 0 by omega), show (2 * k + 1) / 2 = k by omega]
  · have t : tw S T (k + 1) (i / 2) = tw S T k (i / 2) := by rw [tw_succ]; exact if_neg (fun c => e2 c.1)
    rw [if_neg (by omega)]
    unfold tby
    rw [t]
theorem rws_ta {S : List Nat} {T : List Int} {k j : Nat} (h : j < S.length) : rws (ta S T k) j = tw S T k j := by
  unfold rws
  rw [ta_get (by omega), ta_get (by omega)]
  unfold tby
  rw [if_pos (by omega), if_neg (by omega), show 2 * j / 2 = j by omega, show (2 * j + 1) / 2 = j by omega]
  omega
theorem back_at {b : Nat} (hb : b < 256) : Wd.rb (Wd.wr b) = b ∧ Wd.rn (Wd.wr b) = 1 := by
  have := Wd.all_lt Wd.back_chk (i := b) hb
  simp only [Bool.and_eq_true, Nat.beq_eq] at this
  exact this.1
theorem one_at {b i : Nat} (hb : b < 256) (hi : i < 13) : Wd.rb (Wd.wr b ^^^ 2 ^ i) = b ∧ Wd.rn (Wd.wr b ^^^ 2 ^ i) = 2 := by
  have := Wd.all_lt (Wd.all_lt Wd.one_chk (i := b) hb) (i := i) (by omega)
  rw [ble_f (show ¬ 13 ≤ i by omega)] at this
  simp only [cond_false, Bool.and_eq_true, Nat.beq_eq] at this
  exact this
theorem tw_read {S : List Nat} (hS : ∀ x ∈ S, x < 256) (T : List Int) (k j : Nat) : Wd.rb (tw S T k j) = S[j]?.getD 0 ∧ Wd.rn (tw S T k j) = if j < k ∧ inr (tj T j) = true then 2 else 1 := by
  have hb := S_lt hS j
  unfold tw
  by_cases c : j < k ∧ inr (tj T j) = true
  · rw [if_pos c, if_pos c]
    refine one_at hb ?_
    have := c.2
    simp [inr] at this
    omega
  · rw [if_neg c, if_neg c]
    exact back_at hb
theorem rtx_ta {S : List Nat} (hS : ∀ x ∈ S, x < 256) (T : List Int) (k : Nat) : rtx (ta S T k) S.length = S := by
  apply List.ext_getElem (by simp [rtx])
  intro i h1 h2
  simp only [rtx, List.getElem_map, List.getElem_range]
  rw [rws_ta h2, (tw_read hS T k i).1, List.getElem?_eq_getElem h2]
  rfl
theorem rmd_ta {S : List Nat} (hS : ∀ x ∈ S, x < 256) (T : List Int) (k : Nat) : ∀ m, m ≤ S.length → rmd (ta S T k) m = tc T (min m k)
  | 0, _ => by rw [Nat.zero_min]; rfl
  | m + 1, h => by
    have ih := rmd_ta hS T k m (by omega)
    unfold rmd
    rw [ih, rws_ta (show m < S.length by omega)]
    unfold rm
    rw [(tw_read hS T k m).2]
    by_cases c : m < k
    · rw [Nat.min_eq_left (by omega : m ≤ k), Nat.min_eq_left (by omega : m + 1 ≤ k)]
      rw [show tc T (m + 1) = tc T m + if inr (tj T m) = true then 1 else 0 from rfl]
      by_cases d : inr (tj T m) = true
      · rw [if_pos ⟨c, d⟩, if_pos d]; push_cast; omega
      · rw [if_neg (fun e => d e.2), if_neg d]; push_cast; omega
    · rw [Nat.min_eq_right (by omega : k ≤ m), Nat.min_eq_right (by omega : k ≤ m + 1), if_neg (fun e => c e.1)]
      push_cast; omega
theorem arg_is {H : Type} {enc : TypeId × Value → H} {W : World} {fuel : Nat} {a : Option Addr} {l c : Nat} {d : DataW H} {p : List MemPlace} {ts : List TypeId} {ds : List (DataW H)} {j : Nat}
    (hf : DataW.trod enc Tryd.prog W 0 (fun _ => true) true fuel 29 (Value.slice a l c).cells.toList = some (d, p)) (hsz : (DataW.weightsEach Tryd.prog ts ds).all (· ≤ reachBytes) = true) (ht : ts[j]? = some 29) (hd : ds[j]? = some d) : ∃ L, Is W.heap.size W (.slice a l c) L := by
  rcases open_ints Tryd.underlying29 Tryd.underlying3 (by kernel_rfl) hf with ⟨hcs, _⟩ | ⟨x, len, cap, zs, hcs, _, hl, hm, hz, hx, hcell, hwz⟩
  · simp [Value.cells] at hcs
    obtain ⟨rfl, rfl, rfl⟩ := hcs
    exact ⟨[], by simp, none, 0, rfl, by simp, .inl rfl⟩
  · simp [Value.cells] at hcs
    obtain ⟨rfl, rfl, rfl⟩ := hcs
    obtain ⟨rfl, rfl⟩ := Prod.mk.inj hx
    have hb := sized_slice hsz (j := j) (t := 29) (e := 3) ht hd Tryd.underlying29
    rw [show Tryd.prog.bytesOf 3 = 8 by kernel_rfl] at hb
    simp only [lits, List.length_map, List.length_take, List.length_drop, reachBytes] at hb
    simp only [if_true] at hz
    have hlen : (zs.take l).length = l := by rw [List.length_take]; omega
    refine ⟨zs.take l, by omega, _, _, by rw [hlen], by omega, ?_⟩
    by_cases h0 : l = 0
    · left; rw [h0]; rfl
    · right
      obtain ⟨b, off, sp⟩ := x
      cases sp with
      | some s =>
        have h6 := hcell 0 (by omega)
        simp [World.cell?, Addr.add] at h6
        split at h6 <;> simp at h6
      | none =>
        have hc : ∀ j, j < zs.length → W.cell? ⟨b, off + j, none⟩ = some (.int .i64 (zs.getD j 0)) := fun j hj => by rw [← Addr.add_mid]; exact hcell j hj
        refine ⟨b, off, rfl, cell_lt (hc 0 (by omega)), fun j hj => ?_⟩
        rw [hlen] at hj
        rw [hc j (by omega)]
        have hjz : j < zs.length := by omega
        rw [List.getElem?_take_of_lt hj, List.getElem?_eq_getElem hjz]
        simp [List.getD, hjz]
end Go.Proofs.YtiiickinlklelabDoor
