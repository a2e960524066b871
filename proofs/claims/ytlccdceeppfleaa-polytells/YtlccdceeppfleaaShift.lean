/- What the reference's shifted answers: a list times a factor and times x so many times, in new memory; and its ProductOf. -/
import Derived.Test.YtlccdceeppfleaaTimes
namespace Go.Proofs.Ytlccdceeppfleaa
open Go.ChangeShapes Go.WideShapes Go.ChangeAt Go.RowKit Go.Shelf
/-- the first k factors times f, behind n noughts -/
def shN (P : List Nat) (n f k : Nat) : List Nat := List.replicate n 0 ++ (P.take k).map (fun a => Gf.gm a f)
/-- a list times f, behind n noughts -/
def shl (P : List Nat) (n f : Nat) : List Nat := List.replicate n 0 ++ P.map (fun a => Gf.gm a f)
theorem shN_all (P : List Nat) (n f : Nat) : shN P n f P.length = shl P n f := by unfold shN shl; rw [List.take_of_length_le (Nat.le_refl _)]
theorem shN_len (P : List Nat) (n f : Nat) {k : Nat} (hk : k ≤ P.length) : (shN P n f k).length = n + k := by simp [shN]; omega
theorem shN_succ (P : List Nat) (n f : Nat) {k : Nat} (hk : k < P.length) : shN P n f (k + 1) = shN P n f k ++ [Gf.gm (P[k]?.getD 0) f] := by
  unfold shN
  rw [List.take_succ_eq_append_getElem hk, List.map_append, List.append_assoc, List.getElem?_eq_getElem hk]
  rfl
theorem shl_len (P : List Nat) (n f : Nat) : (shl P n f).length = n + P.length := by simp [shl]
theorem co_shl (P : List Nat) (n f j : Nat) : co (shl P n f) j = if n ≤ j then Gf.gm (co P (j - n)) f else 0 := by
  unfold co shl
  by_cases h : n ≤ j
  · rw [if_pos h, List.getElem?_append_right (by simp; omega), List.length_replicate, List.getElem?_map]
    cases P[j - n]? with
    | none => exact (Gf.gm_zeroL f).symm
    | some a => rfl
  · rw [if_neg h, List.getElem?_append_left (by simp; omega), List.getElem?_replicate]
    rw [if_pos (by omega)]; rfl
theorem byt_shl {P : List Nat} (hP : Byt P) (n f : Nat) : Byt (shl P n f) := by
  intro x hx
  rcases List.mem_append.1 hx with h | h
  · rw [List.eq_of_mem_replicate h]; decide
  · obtain ⟨a, ha, rfl⟩ := List.mem_map.1 h
    exact Gf.gm_lt (hP a ha)
theorem made_list (n : Nat) : (madeCells (Value.int .u8 0).cells (n * 1)).toList = cellsB (List.replicate n 0) := by
  apply List.ext_getElem
  · simp [madeCells, cellsB]
  · intro i h1 h2
    simp [madeCells, cellsB, Value.cells, Nat.mod_one]
set_option maxRecDepth 100000 in
set_option maxHeartbeats 4000000 in
theorem shifted_any (av : Value) (P : List Nat) (n f : Nat) (w : World) (hP : Bs w.heap.size w av P) (lp : P.length ≤ 2000) (ln : n ≤ 2000) (hf : f < 256) :
    Calls Try.prog 30 #[av, .int .i64 n, .int .u8 f] w fun e w' => ∃ v, e = .returned v ∧ Ow w.heap.size w' v (shl P n f) ∧ Below w.heap.size w w' := by
  obtain ⟨a1, a2, ao, cap, rfl, _, _, a6⟩ := hP
  have A6 := hid_of a6
  have A1 := hid_of a1
  obtain ⟨i0, hi, hz0, hz1, hz2⟩ := info_parts info5
  clear a6 a1
  go_enter Try.func30, Try.ntmps30
  go_wp2_with (at_make; refine wpList_make_full _ rfl _ _ 22 rfl w.heap.size 5 i0 (.int .u8 0) 1 und22 hi hz0 hz1 _ _ _ _ n rfl rfl (by go_num) (by go_num) (by rw [hz2]; omega) (by unfold maxLen; omega) (Nat.le_refl _) ?_; intro w1 hown hgrow)
  have hB1 : Below w.heap.size w w1 := (Below.refl _ w).grown hgrow (Nat.le_refl _) (fun k e => by cases e)
  rw [made_list] at hown
  have HO1 : Hid (Ow w.heap.size w1 (.slice (some ⟨w.heap.size, 0, none⟩) n n) (shN P n f 0)) := by
    have e : shN P n f 0 = List.replicate n 0 := by simp [shN]
    rw [e]
    refine ⟨by rw [List.length_replicate]; exact hown, fun x hx => by rw [List.eq_of_mem_replicate hx]; decide, by simp; omega⟩
  have HB1 := hid_of hB1
  clear hB1 hown hgrow
  go_loopw [7, 8] (fun v i w' => ∃ k : Nat, k ≤ P.length ∧ i = .int .i64 k ∧ Hid (Ow w.heap.size w' v (shN P n f k)) ∧ Hid (Below w.heap.size w w')) (fun _ i _ => P.length - (intOf i).toNat)
  case atStart => exact ⟨0, by omega, rfl, HO1, HB1⟩
  case round =>
    obtain ⟨k, hk, rfl, HO, HB⟩ := hrel
    obtain ⟨va, vc, hvs⟩ := HO.out.shape
    rw [shN_len _ _ _ hk] at hvs
    subst hvs
    by_cases hp : k < P.length
    · rcases A6.out with h | ⟨b, off, rfl, hb, hc⟩
      · rw [h] at hp; simp at hp
      have hx := (HB.out.cell (p := ⟨b, off + k, none⟩) hb).trans (hc k hp)
      have hx2 := getD_lt A1.out k
      have hsn := shN_succ P n f hp
      obtain ⟨x, hxe⟩ : ∃ x, P[k]?.getD 0 = x := ⟨_, rfl⟩
      rw [hxe] at hx hx2 hsn
      have hvl : Gf.gm x f < 256 := Gf.gm_lt hx2
      have HS := hid_of hsn
      have TL := hid_of (shN_len P n f hk)
      clear hc hxe hsn
      go_wp2_with fail
      refine (mulOf_int _ _ _ (by omega) (by omega) (by omega) (by omega)).mono ?_
      rintro e w2 ⟨rfl, rfl⟩
      rw [Int.toNat_natCast, Int.toNat_natCast]
      obtain ⟨y, hye⟩ : ∃ y, Gf.gm x f = y := ⟨_, rfl⟩
      rw [hye] at hvl HS ⊢
      have HOA := hid_of (HO.out.below ((Below.refl w2.heap.size w2).alloc (Nat.le_refl _) (.cells #[.int .u8 ((y : Nat) : Int)] 5)) (Nat.le_refl _))
      have HBA := hid_of (HB.out.alloc HB.out.size (.cells #[.int .u8 ((y : Nat) : Int)] 5))
      clear hye
      go_wp2_with (at_builtin; refine wpList_append_own _ rfl _ _ 22 rfl w.heap.size 5 i0 (.int .u8 0) 1 1 und22 hi hz0 hz1 hz2 rfl (by decide) _ (n + k) (cellsB (shN P n f k)) rfl (by have h := HOA.out.1; rw [TL.out] at h; exact h) ⟨w2.heap.size, 0, none⟩ 1 1 [.int .u8 ((y : Nat) : Int)] rfl rfl (fun j u hj => by exact news_one w2 _ j u hj) (by simp [Value.oneCell']) (by unfold maxLen; omega) (by omega) (by have := HB.out.size; simp; omega) ?_; intro v' w3 hown hgrow hnil)
      go_roundw
      case rel =>
        refine ⟨k + 1, by omega, by go_num, ?_, HBA.out.grown hgrow (by have := HB.out.size; simp; omega) HOA.out.block_le⟩
        rw [HS.out]
        exact ow_snoc HOA.out (by rw [TL.out]; omega) hvl (by rw [TL.out]; exact hown)
      case measure => simp [intOf]; omega
    · have hke : k = P.length := by omega
      subst hke
      rw [shN_all] at HO
      go_wp2_with fail
      go_ret
      exact ⟨_, rfl, HO.out, HB.out⟩
end Go.Proofs.Ytlccdceeppfleaa
