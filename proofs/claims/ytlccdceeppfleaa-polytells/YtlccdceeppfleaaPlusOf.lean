/- What the reference's PlusOf answers: the sum of two lists, factor by factor, trimmed, in new memory, for all lists of bytes. -/
import Derived.Test.YtlccdceeppfleaaTrimOf
namespace Go.Proofs.Ytlccdceeppfleaa
open Go.ChangeShapes Go.WideShapes Go.ChangeAt Go.RowKit Go.Shelf
/-- the first k factors of a sum -/
def plusN (P Q : List Nat) (k : Nat) : List Nat := (List.range k).map fun i => P[i]?.getD 0 ^^^ Q[i]?.getD 0
/-- a sum, noughts at its end and all -/
def plus (P Q : List Nat) : List Nat := plusN P Q (max P.length Q.length)
theorem plusN_len (P Q : List Nat) (k : Nat) : (plusN P Q k).length = k := by simp [plusN]
theorem plusN_succ (P Q : List Nat) (k : Nat) : plusN P Q (k + 1) = plusN P Q k ++ [P[k]?.getD 0 ^^^ Q[k]?.getD 0] := by
  simp [plusN, List.range_succ]
theorem cellsB_snoc (L : List Nat) (x : Nat) : cellsB (L ++ [x]) = cellsB L ++ [.int .u8 (x : Nat)] := by simp [cellsB]
theorem Ow.block_le {base : Nat} {w : World} {v : Value} {L : List Nat} (h : Ow base w v L) : ∀ k, v.ownBlock = some k → base ≤ k := by
  rcases h.1.2 with ⟨rfl, h4⟩ | ⟨g, cap, cur, rfl, h5, h6, h7⟩
  · intro k e; cases e
  · intro k e; cases e; exact h5
theorem news_one (w : World) (v : Value) (j : Nat) (u : Value) (h : [v][j]? = some u) : (w.alloc (.cells #[v] 5)).cell? ((⟨w.heap.size, 0, none⟩ : Addr).add j) = some u := by
  match j, h with
  | 0, h =>
    simp at h
    subst h
    exact (Boxed.new w 5 v).cell
/-- One byte more behind a list that the call made itself. -/
theorem ow_snoc {base : Nat} {w w' : World} {v v' : Value} {L : List Nat} {x : Nat} (h : Ow base w v L) (hl : L.length + 1 ≤ 140737488351232) (hx : x < 256) (ho : w'.ownsRow base 5 1 v' (L.length + 1) (cellsB L ++ [.int .u8 (x : Nat)])) : Ow base w' v' (L ++ [x]) := by
  refine ⟨?_, ?_, ?_⟩
  · rw [List.length_append, cellsB_snoc]; exact ho
  · intro y hy
    rcases List.mem_append.1 hy with hy | hy
    · exact h.2.1 y hy
    · simp at hy; subst hy; exact hx
  · rw [List.length_append]; exact hl
set_option maxRecDepth 100000 in
set_option maxHeartbeats 4000000 in
theorem plusOf_any (av bv : Value) (P Q : List Nat) (w : World) (hP : Bs w.heap.size w av P) (hQ : Bs w.heap.size w bv Q) :
    Calls Try.prog 22 #[av, bv] w fun e w' => ∃ v, e = .returned v ∧ Ow w.heap.size w' v (trim (plus P Q)) ∧ Below w.heap.size w w' := by
  obtain ⟨a1, a2, ao, cap, rfl, _, _, a6⟩ := hP
  obtain ⟨b1, b2, bo, cbp, rfl, _, _, b6⟩ := hQ
  have A6 := hid_of a6
  have B6 := hid_of b6
  have A1 := hid_of a1
  have B1 := hid_of b1
  obtain ⟨i0, hi, hz0, hz1, hz2⟩ := info_parts info5
  clear a6 b6 a1 b1
  go_enter Try.func22, Try.ntmps22
  go_wp2_with fail
  go_loopw [5, 6] (fun v i w' => ∃ k : Nat, k ≤ max P.length Q.length ∧ i = .int .i64 k ∧ Hid (Ow w.heap.size w' v (plusN P Q k)) ∧ Hid (Below w.heap.size w w')) (fun _ i _ => max P.length Q.length - (intOf i).toNat)
  case atStart => exact ⟨0, by omega, rfl, ⟨World.ownsRow_nil _ _ _ _, by simp [plusN], by simp [plusN]⟩, Below.refl _ _⟩
  case round =>
    obtain ⟨k, hk, rfl, HO, HB⟩ := hrel
    rename_i v wr
    obtain ⟨va, vc, hvs⟩ := HO.out.shape
    rw [plusN_len] at hvs
    subst hvs
    by_cases hp : k < P.length
    · have dp : decide ((k : Int) < (P.length : Int)) = true := decide_eq_true (by omega)
      rcases A6.out with h | ⟨b, off, rfl, hb, hc⟩
      · rw [h] at hp; simp at hp
      have hx := (HB.out.cell (p := ⟨b, off + k, none⟩) hb).trans (hc k hp)
      have hx2 : P[k]?.getD 0 < 256 := getD_lt A1.out k
      obtain ⟨x, hxe⟩ : ∃ x, P[k]?.getD 0 = x := ⟨_, rfl⟩
      rw [hxe] at hx hx2
      clear hc
      by_cases hq : k < Q.length
      · have dq : decide ((k : Int) < (Q.length : Int)) = true := decide_eq_true (by omega)
        rcases B6.out with h | ⟨b', off', rfl, hb', hc'⟩
        · rw [h] at hq; simp at hq
        have hy := (HB.out.cell (p := ⟨b', off' + k, none⟩) hb').trans (hc' k hq)
        have hy2 : Q[k]?.getD 0 < 256 := getD_lt B1.out k
        obtain ⟨y, hye⟩ : ∃ y, Q[k]?.getD 0 = y := ⟨_, rfl⟩
        rw [hye] at hy hy2
        clear hc'
        have h7 := u8_xor_nat _ _ hx2 hy2
        have hg : P[k]?.getD 0 ^^^ Q[k]?.getD 0 = (x ^^^ y) := by rw [hxe, hye]
        have HG := hid_of hg
        clear hg hxe hye
        have hv : (x ^^^ y) < 256 := by exact Gf.xlt hx2 hy2
        have HOA := hid_of (HO.out.below ((Below.refl wr.heap.size wr).alloc (Nat.le_refl _) (.cells #[.int .u8 (((x ^^^ y) : Nat) : Int)] 5)) (Nat.le_refl _))
        have HBA := hid_of (HB.out.alloc HB.out.size (.cells #[.int .u8 (((x ^^^ y) : Nat) : Int)] 5))
        go_wp2_with (at_builtin; refine wpList_append_own _ rfl _ _ 22 rfl w.heap.size 5 i0 (.int .u8 0) 1 1 und22 hi hz0 hz1 hz2 rfl (by decide) _ k (cellsB (plusN P Q k)) rfl (by have h := HOA.out.1; rw [plusN_len] at h; exact h) ⟨wr.heap.size, 0, none⟩ 1 1 [.int .u8 (((x ^^^ y) : Nat) : Int)] rfl rfl (fun j u hj => by exact news_one wr _ j u hj) (by simp [Value.oneCell']) (by unfold maxLen; omega) (by omega) (by have := HB.out.size; simp; omega) ?_; intro v' w1 hown hgrow hnil)
        go_roundw
        case rel =>
          refine ⟨k + 1, by omega, by go_num, ?_, HBA.out.grown hgrow (by have := HB.out.size; simp; omega) HOA.out.block_le⟩
          rw [plusN_succ, HG.out]
          exact ow_snoc HOA.out (by rw [plusN_len]; omega) hv (by rw [plusN_len]; exact hown)
        case measure => simp [intOf]; omega
      · have dq : decide ((k : Int) < (Q.length : Int)) = false := decide_eq_false (by omega)
        have hye : Q[k]?.getD 0 = 0 := by rw [List.getElem?_eq_none (by omega)]; rfl
        have hg : P[k]?.getD 0 ^^^ Q[k]?.getD 0 = x := by rw [hxe, hye, Nat.xor_zero]
        have HG := hid_of hg
        clear hg hxe hye
        have hv : x < 256 := by exact hx2
        have HOA := hid_of (HO.out.below ((Below.refl wr.heap.size wr).alloc (Nat.le_refl _) (.cells #[.int .u8 ((x : Nat) : Int)] 5)) (Nat.le_refl _))
        have HBA := hid_of (HB.out.alloc HB.out.size (.cells #[.int .u8 ((x : Nat) : Int)] 5))
        go_wp2_with (at_builtin; refine wpList_append_own _ rfl _ _ 22 rfl w.heap.size 5 i0 (.int .u8 0) 1 1 und22 hi hz0 hz1 hz2 rfl (by decide) _ k (cellsB (plusN P Q k)) rfl (by have h := HOA.out.1; rw [plusN_len] at h; exact h) ⟨wr.heap.size, 0, none⟩ 1 1 [.int .u8 ((x : Nat) : Int)] rfl rfl (fun j u hj => by exact news_one wr _ j u hj) (by simp [Value.oneCell']) (by unfold maxLen; omega) (by omega) (by have := HB.out.size; simp; omega) ?_; intro v' w1 hown hgrow hnil)
        go_roundw
        case rel =>
          refine ⟨k + 1, by omega, by go_num, ?_, HBA.out.grown hgrow (by have := HB.out.size; simp; omega) HOA.out.block_le⟩
          rw [plusN_succ, HG.out]
          exact ow_snoc HOA.out (by rw [plusN_len]; omega) hv (by rw [plusN_len]; exact hown)
        case measure => simp [intOf]; omega
    · have dp : decide ((k : Int) < (P.length : Int)) = false := decide_eq_false (by omega)
      have hxe : P[k]?.getD 0 = 0 := by rw [List.getElem?_eq_none (by omega)]; rfl
      by_cases hq : k < Q.length
      · have dq : decide ((k : Int) < (Q.length : Int)) = true := decide_eq_true (by omega)
        rcases B6.out with h | ⟨b', off', rfl, hb', hc'⟩
        · rw [h] at hq; simp at hq
        have hy := (HB.out.cell (p := ⟨b', off' + k, none⟩) hb').trans (hc' k hq)
        have hy2 : Q[k]?.getD 0 < 256 := getD_lt B1.out k
        obtain ⟨y, hye⟩ : ∃ y, Q[k]?.getD 0 = y := ⟨_, rfl⟩
        rw [hye] at hy hy2
        clear hc'
        have h7 : bits .xor .u8 (0 : Int) (y : Int) = (y : Int) := by have h := u8_xor_nat 0 y (by omega) hy2; rw [Nat.zero_xor] at h; exact h
        have hg : P[k]?.getD 0 ^^^ Q[k]?.getD 0 = y := by rw [hxe, hye, Nat.zero_xor]
        have HG := hid_of hg
        clear hg hxe hye
        have hv : y < 256 := by exact hy2
        have HOA := hid_of (HO.out.below ((Below.refl wr.heap.size wr).alloc (Nat.le_refl _) (.cells #[.int .u8 ((y : Nat) : Int)] 5)) (Nat.le_refl _))
        have HBA := hid_of (HB.out.alloc HB.out.size (.cells #[.int .u8 ((y : Nat) : Int)] 5))
        go_wp2_with (at_builtin; refine wpList_append_own _ rfl _ _ 22 rfl w.heap.size 5 i0 (.int .u8 0) 1 1 und22 hi hz0 hz1 hz2 rfl (by decide) _ k (cellsB (plusN P Q k)) rfl (by have h := HOA.out.1; rw [plusN_len] at h; exact h) ⟨wr.heap.size, 0, none⟩ 1 1 [.int .u8 ((y : Nat) : Int)] rfl rfl (fun j u hj => by exact news_one wr _ j u hj) (by simp [Value.oneCell']) (by unfold maxLen; omega) (by omega) (by have := HB.out.size; simp; omega) ?_; intro v' w1 hown hgrow hnil)
        go_roundw
        case rel =>
          refine ⟨k + 1, by omega, by go_num, ?_, HBA.out.grown hgrow (by have := HB.out.size; simp; omega) HOA.out.block_le⟩
          rw [plusN_succ, HG.out]
          exact ow_snoc HOA.out (by rw [plusN_len]; omega) hv (by rw [plusN_len]; exact hown)
        case measure => simp [intOf]; omega
      · have dq : decide ((k : Int) < (Q.length : Int)) = false := decide_eq_false (by omega)
        have hke : k = max P.length Q.length := by omega
        have HKE := hid_of hke
        clear hke
        have sO := hid_of HO.out.bs
        have hls : (plusN P Q k).length = k := plusN_len _ _ _
        have HLS := hid_of hls
        clear hls
        go_wp2_with (go_at_call 18; refine (trimOf_any _ (plusN P Q k) _ (by have := sO.out; exact this)).mono ?_; rintro e w1 ⟨v1, rfl, hO1, hB1⟩)
        go_ret
        refine ⟨_, rfl, ?_, HB.out.trans (hB1.mono HB.out.size)⟩
        unfold plus
        rw [← HKE.out]
        exact hO1.mono HB.out.size
end Go.Proofs.Ytlccdceeppfleaa
