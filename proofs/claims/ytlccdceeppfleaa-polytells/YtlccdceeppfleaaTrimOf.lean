/- What the reference's TrimOf answers: the list without the noughts at its end, in new memory, for every list of bytes. -/
import Derived.Test.YtlccdceeppfleaaPolyA
namespace Go.Proofs.Ytlccdceeppfleaa
open Go.ChangeShapes Go.WideShapes Go.ChangeAt Go.RowKit Go.Shelf
theorem bs_cut {n : Nat} {w : World} {b off cap : Nat} {zs : List Nat} (h1 : ∀ x ∈ zs, x < 256) (h2 : zs.length ≤ 140737488351232) (h3 : zs.length ≤ cap) (h8 : b < n) (h9 : ∀ j, j < zs.length → w.cell? ⟨b, off + j, none⟩ = some (.int .u8 (zs[j]?.getD 0 : Nat)))
    {i : Nat} (hi : i ≤ zs.length) : Bs n w (.slice (some ⟨b, off, none⟩) i cap) (zs.take i) := by
  have hl : (zs.take i).length = i := by rw [List.length_take]; omega
  refine ⟨fun x hx => h1 x (List.mem_of_mem_take hx), by omega, some ⟨b, off, none⟩, cap, by rw [hl], by omega, by simp, .inr ⟨b, off, rfl, h8, fun j hj => ?_⟩⟩
  rw [h9 j (by omega), List.getElem?_take_of_lt (by omega)]
theorem trim_end1 {L : List Nat} {n : Nat} (h : L.length = n + 1) : trim L = if L[n]?.getD 0 = 0 then trim (L.take n) else L := by
  have e : L = L.take n ++ [L[n]?.getD 0] := by
    have hn : n < L.length := by omega
    rw [List.getElem?_eq_getElem hn, Option.getD_some, ← List.take_succ_eq_append_getElem hn, ← h, List.take_length]
  rw [e, trim_snoc]
  rw [← e]
set_option maxRecDepth 100000 in
set_option maxHeartbeats 2000000 in
theorem trimOf_len : ∀ (n : Nat) (v : Value) (L : List Nat) (w : World), L.length = n → Bs w.heap.size w v L →
    Calls Try.prog 18 #[v] w fun e w' => ∃ v', e = .returned v' ∧ Ow w.heap.size w' v' (trim L) ∧ Below w.heap.size w w'
  | 0, v, L, w, hn, hI => by
    obtain rfl : L = [] := List.eq_nil_of_length_eq_zero hn
    obtain ⟨_, _, ao, cap, rfl, _⟩ := hI
    show Calls Try.prog 18 #[.slice ao 0 cap] w _
    go_enter Try.func18, Try.ntmps18
    go_wp2_with fail
    go_ret
    exact ⟨_, rfl, ⟨World.ownsRow_nil _ _ _ _, by simp [trim_nil], by simp [trim_nil]⟩, Below.refl _ _⟩
  | n + 1, v, L, w, hn, hI => by
    obtain ⟨h1, h2, ao, cap, rfl, h4, h5, h6⟩ := hI
    rcases h6 with rfl | ⟨b, off, rfl, h8, h9⟩
    · simp at hn
    have hx := h9 n (by omega)
    have hcut := hid_of (bs_cut h1 h2 h4 h8 h9 (i := n) (by omega))
    have htl := hid_of (trim_end1 hn)
    have hlc : (L.take n).length = n := by rw [List.length_take]; omega
    have HLC := hid_of hlc
    have H1 := hid_of h1
    have H2 := hid_of h2
    obtain ⟨x, hxe⟩ : ∃ x, L[n]?.getD 0 = x := ⟨_, rfl⟩
    rw [hxe] at hx htl
    have H9 := hid_of h9
    rw [hn] at h2 h4
    have HN := hid_of hn
    rw [hn]
    have hw : IntKind.i64.wrap ((n : Int)) = n := by rw [IntKind.wrap_i64]; omega
    clear h9 hlc h1 hxe hn
    by_cases h0 : x = 0
    · have h0' : (((x : Nat) : Int) != 0) = false := by simp [h0]
      go_enter Try.func18, Try.ntmps18
      go_wp2_with (go_at_call 18; refine (trimOf_len n _ _ _ HLC.out hcut.out).mono ?_; rintro e w1 ⟨v1, rfl, hO, hB⟩)
      all_goals go_ret
      all_goals (rw [htl.out, if_pos h0]; exact ⟨_, rfl, hO, hB⟩)
    · have h0' : (((x : Nat) : Int) != 0) = true := by simp [h0]
      obtain ⟨i0, hi, hz0, hz1, hz2⟩ := info_parts info5
      have HC : Hid (∀ j u, (cellsB L)[j]? = some u → w.cell? ((⟨b, off, none⟩ : Addr).add j) = some u) := by
        intro j u hj
        have hj' : j < L.length := by have := (List.getElem?_eq_some_iff.1 hj).1; simpa [cellsB] using this
        rw [cellsB_get hj'] at hj
        rw [Addr.add_mid, H9.out j hj', hj]
      go_enter Try.func18, Try.ntmps18
      go_wp2_with (at_builtin; refine wpList_append_own _ rfl _ _ 22 rfl w.heap.size 5 i0 (.int .u8 0) 1 1 und22 hi hz0 hz1 hz2 rfl (by decide) _ 0 [] rfl (World.ownsRow_lit w #[] 0 (Nat.le_refl _) (by decide) rfl) ⟨b, off, none⟩ (n + 1) cap (cellsB L) rfl (by have := HN.out; simp [cellsB]; omega) (fun j u hj => cell_new _ (HC.out j u hj)) (cellsB_one L) (by unfold maxLen; omega) (by omega) (by simp) ?_; intro v' w1 hown hgrow hnil)
      rw [Nat.zero_add, List.nil_append] at hown
      go_ret
      rw [htl.out, if_neg h0]
      have hN := HN.out
      rw [← hN] at hown
      exact ⟨_, rfl, ⟨hown, H1.out, H2.out⟩, ((Below.refl _ w).alloc (Nat.le_refl _) _).grown hgrow (by simp) (fun k e => by cases e; exact Nat.le_refl _)⟩
theorem trimOf_any (v : Value) (L : List Nat) (w : World) (hI : Bs w.heap.size w v L) :
    Calls Try.prog 18 #[v] w fun e w' => ∃ v', e = .returned v' ∧ Ow w.heap.size w' v' (trim L) ∧ Below w.heap.size w w' := trimOf_len _ v L w rfl hI
end Go.Proofs.Ytlccdceeppfleaa
