/- What poly.product answers: the product of two lists, trimmed, in new memory. -/
import Derived.Test.YtlccdceeppfleabAdd
namespace Go.Proofs.Ytlccdceeppfleab
open Go.ChangeShapes Go.WideShapes Go.ChangeAt Go.RowKit Go.Shelf
/-- R, with Q times f added from place o on -/
def addAt (R : List Nat) (o : Nat) (Q : List Nat) (f : Nat) : List Nat :=
  (List.range R.length).map fun n => if o ≤ n ∧ n < o + Q.length then R[n]?.getD 0 ^^^ Gf.gm (Q[n - o]?.getD 0) f else R[n]?.getD 0
theorem addAt_len (R : List Nat) (o : Nat) (Q : List Nat) (f : Nat) : (addAt R o Q f).length = R.length := by simp [addAt]
theorem addAt_get {R : List Nat} {o : Nat} {Q : List Nat} {f n : Nat} (h : n < R.length) : (addAt R o Q f)[n]?.getD 0 = if o ≤ n ∧ n < o + Q.length then R[n]?.getD 0 ^^^ Gf.gm (Q[n - o]?.getD 0) f else R[n]?.getD 0 := by
  unfold addAt
  rw [List.getElem?_map, List.getElem?_range h]
  rfl
theorem getD_lt {L : List Nat} (h : ∀ x ∈ L, x < 256) (j : Nat) : L[j]?.getD 0 < 256 := by
  by_cases hj : j < L.length
  · rw [List.getElem?_eq_getElem hj]; exact h _ (List.getElem_mem _)
  · rw [List.getElem?_eq_none (by omega)]; decide
theorem addAt_lt {R Q : List Nat} (hR : ∀ x ∈ R, x < 256) (hQ : ∀ x ∈ Q, x < 256) (o f : Nat) : ∀ x ∈ addAt R o Q f, x < 256 := by
  intro x hx
  unfold addAt at hx
  rw [List.mem_map] at hx
  obtain ⟨n, _, rfl⟩ := hx
  split
  · exact Gf.xlt (getD_lt hR n) (Gf.gm_lt (getD_lt hQ _))
  · exact getD_lt hR n
theorem cellsB_len (L : List Nat) : (cellsB L).length = L.length := by simp [cellsB]
theorem upd_addAt {R Q : List Nat} {o f : Nat} : upd (cellsB R).toArray o (fun j => R[o + j]?.getD 0 ^^^ Gf.gm (Q[j]?.getD 0) f) Q.length = (cellsB (addAt R o Q f)).toArray := by
  apply Array.ext_getElem?
  intro i
  rw [upd_get, List.size_toArray, cellsB_len]
  by_cases hi : i < R.length
  · rw [List.getElem?_toArray, List.getElem?_toArray, cellsB_get (L := addAt R o Q f) (by rw [addAt_len]; exact hi), addAt_get hi, cellsB_get hi]
    by_cases c : o ≤ i ∧ i < o + Q.length
    · rw [if_pos ⟨c.1, c.2, hi⟩, if_pos c, show o + (i - o) = i by omega]
    · rw [if_neg (fun d => c ⟨d.1, d.2.1⟩), if_neg c]
  · rw [if_neg (by omega), List.getElem?_toArray, List.getElem?_toArray, List.getElem?_eq_none (by rw [cellsB_len]; omega), List.getElem?_eq_none (by rw [cellsB_len, addAt_len]; omega)]
/-- the product, k of the first one's factors done -/
def prow (P Q : List Nat) : Nat → List Nat
  | 0 => List.replicate (P.length + Q.length) 0
  | k + 1 => addAt (prow P Q k) k Q (P[k]?.getD 0)
theorem prow_len (P Q : List Nat) : ∀ k, (prow P Q k).length = P.length + Q.length
  | 0 => by simp [prow]
  | k + 1 => by unfold prow; rw [addAt_len, prow_len P Q k]
theorem prow_lt {P Q : List Nat} (hQ : ∀ x ∈ Q, x < 256) : ∀ k, ∀ x ∈ prow P Q k, x < 256
  | 0 => by intro x hx; simp [prow] at hx; omega
  | k + 1 => by unfold prow; exact addAt_lt (prow_lt hQ k) hQ _ _
theorem made_cells {w' : World} {base g n : Nat} (h : w'.ownsRow base 5 1 (.slice (some ⟨g, 0, none⟩) n n) n (madeCells (Value.int .u8 0).cells (n * 1)).toList) : w'.heap[g]? = some (.cells (cellsB (List.replicate n 0)).toArray 5 (0, 0)) ∧ base ≤ g := by
  rcases h.2 with ⟨h1, _⟩ | ⟨g', cap, cur, h1, h5, h6, h7, h8, h9, h10⟩
  · cases h1
  · injection h1 with h1 _ h2
    injection h1 with h1
    injection h1 with h1 _
    subst h1 h2
    refine ⟨?_, h5⟩
    rw [h6]
    have e : cur = (cellsB (List.replicate n 0)).toArray := by
      apply Array.ext'
      rw [List.take_of_length_le (by rw [Array.length_toList, h9]; exact Nat.le_refl _)] at h10
      rw [h10]
      apply List.ext_getElem
      · simp [madeCells, cellsB]
      · intro i h1 h2
        simp [madeCells, cellsB, Value.cells, Nat.mod_one]
    rw [e]
set_option maxRecDepth 100000 in
set_option maxHeartbeats 2000000 in
theorem product_any (pv qv : Value) (P Q : List Nat) (w : World) (hP : Bs w.heap.size w pv P) (hQ : Bs w.heap.size w qv Q) (hl : P.length + Q.length ≤ 1000) :
    Calls Try.prog 20 #[pv, qv] w fun e w' => ∃ v, e = .returned v ∧ Ow w.heap.size w' v (trim (prow P Q P.length)) ∧ Below w.heap.size w w' := by
  have HP : Hid (Bs w.heap.size w pv P) := hP
  have HQ : Hid (Bs w.heap.size w qv Q) := hQ
  obtain ⟨p1, p2, ao, cap, rfl, p4, p5, p6⟩ := hP
  obtain ⟨q1, q2, bo, cbp, rfl, q4, q5, q6⟩ := hQ
  obtain ⟨i0, hi, hz0, hz1, hz2⟩ := info_parts info5
  have Hp1 : Hid (∀ x ∈ P, x < 256) := p1
  have Hp6 : Hid (P = [] ∨ ∃ b off, ao = some ⟨b, off, none⟩ ∧ b < w.heap.size ∧ ∀ j, j < P.length → w.cell? ⟨b, off + j, none⟩ = some (.int .u8 (P[j]?.getD 0 : Nat))) := p6
  have Hq1 : Hid (∀ x ∈ Q, x < 256) := q1
  clear p1 p6 p5 q1 q5 q6 p4 q4
  go_enter Try.func20, Try.ntmps20
  go_wp2_with (at_make; refine wpList_make_full _ rfl _ _ 22 rfl w.heap.size 5 i0 (.int .u8 0) 1 und22 hi hz0 hz1 _ _ _ _ (P.length + Q.length) rfl rfl (by go_num) (by go_num) (by rw [hz2]; omega) (by unfold maxLen; omega) (Nat.le_refl _) ?_; intro w1 hown hgrow)
  obtain ⟨hg, _⟩ := made_cells hown
  have hB1 : Below w.heap.size w w1 := (Below.refl _ w).grown hgrow (Nat.le_refl _) (fun k e => by cases e)
  have HG : Hid (w1.heap[w.heap.size]? = some (.cells (cellsB (prow P Q 0)).toArray 5 (0, 0))) := hg
  have HQ1 : Hid (Bs w.heap.size w1 (.slice bo Q.length cbp) Q) := HQ.out.below hB1
  have HB1 : Hid (Below w.heap.size w w1) := hB1
  clear hg hown hgrow hB1
  go_loopw [16] (fun i w' => ∃ k : Nat, k ≤ P.length ∧ i = .int .i64 k ∧ Hid (OnlyAt w.heap.size (.cells (cellsB (prow P Q k)).toArray 5 (0, 0)) w1 w')) (fun i _ => P.length - (intOf i).toNat)
  case atStart => exact ⟨0, by omega, rfl, OnlyAt.refl HG.out⟩
  case round =>
    obtain ⟨k, hk, rfl, H⟩ := hrel
    rename_i wr
    have hbw : Hid (Below w.heap.size w1 wr) := H.out.below (Nat.le_refl _)
    by_cases hlt : k < P.length
    · rcases Hp6.out with h | ⟨b, off, rfl, hb, hc⟩
      · rw [h] at hlt; simp at hlt
      have hcell := ((HB1.out.trans hbw.out).cell (p := ⟨b, off + k, none⟩) hb).trans (hc k hlt)
      obtain ⟨pk, hpk⟩ : ∃ pk, P[k]?.getD 0 = pk := ⟨_, rfl⟩
      have hpl : pk < 256 := by rw [← hpk]; exact getD_lt Hp1.out k
      rw [hpk] at hcell
      have HPK : Hid (P[k]?.getD 0 = pk) := hpk
      clear hc hpk
      have HQ2 : Hid (BsN w.heap.size wr (.slice bo Q.length cbp) Q) := (HQ1.out.below hbw.out).ne (Nat.le_refl _)
      have hrl := prow_len P Q k
      have HR : Hid (∀ x ∈ prow P Q k, x < 256) := prow_lt Hq1.out k
      have HN : Hid (prow P Q (k + 1) = addAt (prow P Q k) k Q pk) := by show prow P Q (k + 1) = _; rw [prow, HPK.out]
      go_wp2_with fail
      refine (addTimes_any w.heap.size k (P.length + Q.length - k) _ (cellsB (prow P Q k)).toArray (fun j => (prow P Q k)[k + j]?.getD 0) _ Q pk wr (by omega) (by omega) HQ2.out (by omega) (by omega) H.out.at_ (fun j hj => ⟨getD_lt HR.out _, by rw [List.getElem?_toArray, cellsB_get (by omega)]⟩)).mono ?_
      rintro e w2 ⟨⟨v, rfl⟩, hO⟩
      rw [Int.toNat_natCast, upd_addAt, ← HN.out] at hO
      have HO : Hid (OnlyAt w.heap.size (.cells (cellsB (prow P Q (k + 1))).toArray 5 (0, 0)) w1 w2) := H.out.trans hO
      clear hO
      go_wp2_with fail
      go_roundw
      case rel => exact ⟨k + 1, by omega, by go_num, HO⟩
      case measure => simp [intOf]; omega
    · have hk' : k = P.length := by omega
      subst hk'
      have hrl := prow_len P Q P.length
      have hgl : w.heap.size < wr.heap.size := (Array.getElem?_eq_some_iff.1 H.out.at_).1
      have HOut : Hid (Bs wr.heap.size wr (.slice (some ⟨w.heap.size, 0, none⟩) (P.length + Q.length) (P.length + Q.length)) (prow P Q P.length)) := by
        refine ⟨prow_lt Hq1.out _, by omega, _, _, by rw [hrl], by omega, by simp, .inr ⟨w.heap.size, 0, rfl, hgl, fun j hj => ?_⟩⟩
        rw [Nat.zero_add, H.out.read j, List.getElem?_toArray, cellsB_get hj]
      go_wp2_with fail
      refine (trim_any _ _ _ HOut.out).mono ?_
      rintro e w2 ⟨v, rfl, hO, hB2⟩
      go_wp2_with fail
      go_ret
      have hB := HB1.out.trans hbw.out
      exact ⟨_, rfl, hO.mono hB.size, hB.trans (hB2.mono hB.size)⟩
end Go.Proofs.Ytlccdceeppfleab
