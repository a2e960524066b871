/- What poly.Trim answers: the list without the noughts at its end, in new memory, for every list of bytes. -/
import Derived.Test.YtlccdceeppfleabClone
namespace Go.Proofs.Ytlccdceeppfleab
open Go.ChangeShapes Go.WideShapes Go.ChangeAt Go.RowKit Go.Shelf
attribute [local go_sem] Oper.semAt_some
/-- a list without the noughts at its end -/
def trim (L : List Nat) : List Nat := (L.reverse.dropWhile (fun x => x == 0)).reverse
theorem trim_nil : trim [] = [] := rfl
theorem trim_snoc (L : List Nat) (x : Nat) : trim (L ++ [x]) = if x = 0 then trim L else L ++ [x] := by
  unfold trim
  rw [List.reverse_append, List.reverse_cons, List.reverse_nil, List.nil_append, List.cons_append, List.nil_append, List.dropWhile_cons]
  by_cases h : x = 0
  · simp [h]
  · simp [h]
theorem trim_zeros (L Z : List Nat) (h : ∀ x ∈ Z, x = 0) : trim (L ++ Z) = trim L := by
  unfold trim
  rw [List.reverse_append, List.dropWhile_append_of_pos (by intro x hx; simp [h x (by simpa using hx)])]
theorem trim_none {zs : List Nat} {ys : List (PB zs.length (AtZ zs))} (h : ys.length = zs.length ∧ Seqd ys) (hp : ∀ p ∈ ys, p.1.2 = 0) : trim zs = [] := by
  have e := seqd_rev h
  have hz : ∀ x ∈ zs, x = 0 := by
    intro x hx
    have : x ∈ ys.map (fun p => p.1.2) := by rw [e]; simpa using hx
    simp only [List.mem_map] at this
    obtain ⟨p, hp1, hp2⟩ := this
    rw [← hp2]; exact hp p hp1
  have := trim_zeros [] zs hz
  simpa [trim_nil] using this
theorem trim_some {zs : List Nat} {pre ini : List (PB zs.length (AtZ zs))} {last : PB zs.length (AtZ zs)} (h : pre.length ≤ zs.length ∧ Seqd pre) (e1 : pre = ini ++ [last]) (e2 : ∀ p ∈ ini, p.1.2 = 0) (e3 : last.1.2 ≠ 0) : trim zs = zs.take (last.1.1 + 1) := by
  subst e1
  have hl : last.1.1 = zs.length - 1 - ini.length := h.2 ini.length last (by simp)
  have hlt := last.2.1
  have hv : last.1.2 = zs[last.1.1]?.getD 0 := last.2.2
  have hz : ∀ x ∈ zs.drop (last.1.1 + 1), x = 0 := by
    intro x hx
    obtain ⟨j, hj, rfl⟩ := List.getElem_of_mem hx
    rw [List.length_drop] at hj
    rw [List.getElem_drop]
    have hk : zs.length - 1 - (last.1.1 + 1 + j) < ini.length := by omega
    have h5 := h.2 (zs.length - 1 - (last.1.1 + 1 + j)) ini[zs.length - 1 - (last.1.1 + 1 + j)] (by rw [List.getElem?_append_left hk, List.getElem?_eq_getElem hk])
    have h6 : ini[zs.length - 1 - (last.1.1 + 1 + j)].1.2 = zs[ini[zs.length - 1 - (last.1.1 + 1 + j)].1.1]?.getD 0 := ini[zs.length - 1 - (last.1.1 + 1 + j)].2.2
    have h7 := e2 _ (List.getElem_mem hk)
    rw [h7, h5, show zs.length - 1 - (zs.length - 1 - (last.1.1 + 1 + j)) = last.1.1 + 1 + j by omega, List.getElem?_eq_getElem (by omega)] at h6
    exact h6.symm
  have e := trim_zeros (zs.take (last.1.1 + 1)) (zs.drop (last.1.1 + 1)) hz
  rw [List.take_append_drop] at e
  rw [e, List.take_succ_eq_append_getElem hlt, trim_snoc, if_neg]
  rw [hv, List.getElem?_eq_getElem hlt] at e3
  exact e3
theorem keeps_below {B : Nat} {W W' : World} (h : Below W.heap.size W W') : KeepsFrom B W W' := ⟨h.size, fun k _ _ hk _ => (h.block k (Array.getElem?_eq_some_iff.1 hk).1).trans hk⟩
theorem Ow.kept {base : Nat} {w w' : World} {v : Value} {L : List Nat} {row : Option Nat} (h : Ow base w v L) (hg : w.grownBy w' row) (hr : ∀ r, row = some r → ∃ o : Obj, w.heap[r]? = some o ∧ o.isCells = false) : Ow base w' v L := by
  obtain ⟨h1, h2, h3⟩ := h
  refine ⟨h1.kept hg ?_, h2, h3⟩
  rcases h1.2 with ⟨rfl, h4⟩ | ⟨g, cap, cur, rfl, h5, h6, h7⟩
  · exact .inl rfl
  · right
    intro e
    obtain ⟨o, ho1, ho2⟩ := hr g e.symm
    rw [h6] at ho1
    cases ho1
    cases ho2
theorem Ow.setBelow {base : Nat} {w : World} {v : Value} {L : List Nat} (h : Ow base w v L) {p : Addr} (hp : p.block < base) (u : Value) : Ow base (w.setCell p u) v L := by
  obtain ⟨h1, h2, h3⟩ := h
  exact ⟨ownsRow_setCell_below h1 hp u, h2, h3⟩
theorem bs_take {n : Nat} {w : World} {b off cap : Nat} {zs : List Nat} (h1 : ∀ x ∈ zs, x < 256) (h2 : zs.length ≤ 140737488351232) (h3 : zs.length ≤ cap) (h8 : b < n) (h9 : ∀ j, j < zs.length → w.cell? ⟨b, off + j, none⟩ = some (.int .u8 (zs[j]?.getD 0 : Nat)))
    {i : Nat} (hi : i < zs.length) : Bs n w (.slice (some ⟨b, off, none⟩) (i + 1) cap) (zs.take (i + 1)) := by
  have hl : (zs.take (i + 1)).length = i + 1 := by rw [List.length_take]; omega
  refine ⟨fun x hx => h1 x (List.mem_of_mem_take hx), by omega, some ⟨b, off, none⟩, cap, by rw [hl], by omega, by simp, .inr ⟨b, off, rfl, h8, fun j hj => ?_⟩⟩
  rw [h9 j (by omega), List.getElem?_take_of_lt (by omega)]
theorem Ow.shape {base : Nat} {w : World} {v : Value} {L : List Nat} (h : Ow base w v L) : ∃ ao cap, v = .slice ao L.length cap := by
  rcases h.1.2 with ⟨rfl, h4⟩ | ⟨g, cap, cur, rfl, _⟩
  · exact ⟨none, 0, by rw [h4]⟩
  · exact ⟨_, _, rfl⟩
set_option maxRecDepth 100000 in
set_option maxHeartbeats 2000000 in
theorem trim_in (a : Option Addr) (cap : Nat) (zs : List Nat) (w : World) (hI : Bs w.heap.size w (.slice a zs.length cap) zs) :
    CallsIn Fence.wide 5 Try.prog 6 #[.slice a zs.length cap] w fun e W' => ∃ v, e = .returned v ∧ Ow w.heap.size W' v (trim zs) ∧ Below w.heap.size w W' := by
  refine callsIn_of_wp_marks Try.func6 rfl trivial ?_ rfl
  simp only [Try.ntmps6, List.size_toArray, List.length_cons, List.length_nil, Nat.reduceAdd, Nat.reduceSub, Array.replicate_succ, Array.replicate_zero, List.push_toArray, List.append_toArray, List.nil_append, List.cons_append]
  have HI : Hid (Bs w.heap.size w (.slice a zs.length cap) zs) := hI
  clear hI
  gi_wp2_with (refine ⟨trivial, ?_⟩; gi_at_call 15; refine (back_in _ _ _ _ _).mono ?_; rintro e w' ⟨rfl, rfl⟩)
  have bP := Boxed.new w 22 (.slice a zs.length cap)
  have bR := Boxed.new (w.alloc (.cells #[.slice a zs.length cap] 22)) 22 (.slice none 0 0)
  have bN := Boxed.new ((w.alloc (.cells #[.slice a zs.length cap] 22)).alloc (.cells #[.slice none 0 0] 22)) 22 (.slice a zs.length cap)
  simp only [World.size_alloc] at bR bN
  have hB0 : Below w.heap.size w (((w.alloc (.cells #[.slice a zs.length cap] 22)).alloc (.cells #[.slice none 0 0] 22)).alloc (.cells #[.slice a zs.length cap] 22)) := (((Below.refl _ w).alloc (Nat.le_refl _) _).alloc (by simp) _).alloc (by simp; omega) _
  refine wpIn_rangeFunc_ownG rfl (by decide) (gf := 23) (lb := #[.pointer (some ⟨w.heap.size + 1 + 1, 0, none⟩)]) rfl trivial (enters_of Try.func23 (by kernel_rfl) rfl)
    (back_stops 4 (by decide) (w.heap.size + 1 + 1) w.heap.size _ zs _ (by simp) (by simp; omega) bN.cell (HI.out.below hB0)) KpB.trans (KpB.put (by simp; omega) (by simp)) (Below.refl _ _) (fun _ => rfl)
    (fun pre W => ((∀ p ∈ pre, p.1.2 = 0) ∧ W.cell? ⟨w.heap.size, 0, none⟩ = some (.slice a zs.length cap) ∧ W.cell? ⟨w.heap.size + 1, 0, none⟩ = some (.slice none 0 0) ∧ W.frozen? ⟨w.heap.size + 1, 0, none⟩ = false) ∧ Below w.heap.size w W)
    (fun c pre W => (c = .ret ∧ ∃ ini last v, pre = ini ++ [last] ∧ (∀ p ∈ ini, p.1.2 = 0) ∧ last.1.2 ≠ 0 ∧ W.cell? ⟨w.heap.size + 1, 0, none⟩ = some v ∧ Ow w.heap.size W v (zs.take (last.1.1 + 1))) ∧ Below w.heap.size w W)
    (OwnFrom.and (Own.from (fun s A B row hs hg hr => ⟨hs.1, cell_kept hs.2.1 hg hr, cell_kept hs.2.2.1 hg hr, (frozen_kept hs.2.2.1 hg hr).trans hs.2.2.2⟩) _) (ownFrom_below (Nat.le_refl _) (by simp; omega)))
    (fun c => OwnFrom.and (Own.from (fun s A B row hs hg hr => by obtain ⟨hc, ini, last, v, e1, e2, e3, e4, e5⟩ := hs; exact ⟨hc, ini, last, v, e1, e2, e3, cell_kept e4 hg hr, e5.kept hg hr⟩) _) (ownFrom_below (Nat.le_refl _) (by simp; omega)))
    ⟨⟨by simp, ((bP.alloc _).alloc _).cell, (bR.alloc _).cell, (bR.alloc _).frozen⟩, hB0⟩
    (fun p => { tmps := #[.slice a zs.length cap, .pointer (some ⟨w.heap.size, 0, none⟩), .pointer (some ⟨w.heap.size + 1, 0, none⟩), .int .i64 (p.1.1 : Nat), .int .u8 (p.1.2 : Nat), .slice a zs.length cap, .func (.func 23) #[] #[.pointer (some ⟨w.heap.size + 1 + 1, 0, none⟩)], .int .i64 (p.1.1 : Nat), .int .u8 (p.1.2 : Nat), undef, undef, undef, undef, undef, undef, undef], defers := [] }) ?assign ?body ?done ?stop
  case assign =>
    intro l p W K hK
    gi_wp2
    exact hK
  case body =>
    rintro l pre p W ⟨⟨hp, hcp, hcr, hfr⟩, hB⟩ _
    by_cases h0 : p.1.2 = 0
    · have h0' : (((p.1.2 : Nat) : Int) != 0) = false := by simp [h0]
      gi_wp2
      exact ⟨KeepsFrom.refl _ _, ⟨Below.refl _ _, rfl⟩, ⟨fun q hq => (List.mem_append.1 hq).elim (hp q) (fun e => by simp at e; subst e; exact h0), hcp, hcr, hfr⟩, hB⟩
    · have h0' : (((p.1.2 : Nat) : Int) != 0) = true := by simp [h0]
      have hpl := p.2.1
      obtain ⟨q1, q2, ao, cap', q3, q4, q5, q6⟩ := HI.out
      injection q3 with q3 _ q7
      subst q3 q7
      rcases q6 with rfl | ⟨b, off, rfl, q8, q9⟩
      · simp at hpl
      have Hp : Hid (∀ p ∈ pre, p.1.2 = 0) := hp
      have Hq : Hid (∀ x ∈ zs, x < 256) := q1
      have H9 : Hid (∀ j, j < zs.length → w.cell? ⟨b, off + j, none⟩ = some (.int .u8 (zs[j]?.getD 0 : Nat))) := q9
      clear q1 q9 hp
      have hW9 : ∀ j, j < zs.length → W.cell? ⟨b, off + j, none⟩ = some (.int .u8 (zs[j]?.getD 0 : Nat)) := fun j hj => (hB.cell (p := ⟨b, off + j, none⟩) q8).trans (H9.out j hj)
      have HT : Hid (Bs w.heap.size W (.slice (some ⟨b, off, none⟩) (p.1.1 + 1) cap) (zs.take (p.1.1 + 1))) := bs_take Hq.out q2 q4 q8 hW9 hpl
      have hls : (zs.take (p.1.1 + 1)).length = p.1.1 + 1 := by rw [List.length_take]; omega
      have HLS : Hid ((zs.take (p.1.1 + 1)).length = p.1.1 + 1) := hls
      have hw := hB.size
      have hlt := cell_lt hcr
      clear hW9 hls
      gi_wp2_with (refine ⟨trivial, ?_⟩; gi_at_call 16; refine (CallsIn.inRound l (callsIn_wide.2 (clone_any _ _ _ _ HT.out))).mono ?_; rintro e w1 ⟨v', rfl, hO, hB1⟩; obtain ⟨ao', cap'', hv'⟩ := hO.shape; subst hv'; have hc1 := (hB1.cell (p := ⟨w.heap.size + 1, 0, none⟩) hlt).trans hcr; have hf1 := (hB1.frozen (p := ⟨w.heap.size + 1, 0, none⟩) hlt).trans hfr)
      refine ⟨(keeps_below hB1).trans ((KeepsOthers.setCell _ _ _).from _), ⟨rfl, pre, p, _, rfl, Hp.out, h0, World.cell?_setCell_same' _ _ _ (by rw [hc1]; rfl), ?_⟩, (hB.trans (hB1.mono hw)).setCell (p := ⟨w.heap.size + 1, 0, none⟩) (by simp) _⟩
      have hfin := (hO.setBelow (p := ⟨w.heap.size + 1, 0, none⟩) hlt (.slice ao' (zs.take (p.1.1 + 1)).length cap'')).mono hw
      rw [List.length_take] at hfin
      exact hfin
  case done =>
    rintro D ys W hD hys ⟨⟨hp, hcp, hcr, hfr⟩, hB⟩ hK
    gi_wp2
    have hK' := (KeepsOthers.setCell W ⟨w.heap.size + 1, 0, none⟩ (.slice none 0 0)).same D _ hK rfl
    refine ⟨by simp, .inl ⟨_, _, rfl, run_takeDeferred hK', ?_⟩⟩
    have hc5 := cell_kept (World.cell?_setCell_same' W ⟨w.heap.size + 1, 0, none⟩ (.slice none 0 0) (by rw [hcr]; rfl)) (grownBy_putObj' _ D (.deferred none)) (fun r e => by cases e; exact ⟨_, hK', rfl⟩)
    refine ⟨.slice none 0 0, ?_, ⟨_, rfl, ?_, (hB.setCell (p := ⟨w.heap.size + 1, 0, none⟩) (by simp) _).trans (belowK_b (w := w) (Nat.le_refl _) _ D _ _ (by simp at hD; omega) hK' rfl rfl)⟩⟩
    · simp [results, Try.f6, go_sem, hc5]
    · rw [trim_none hys hp]
      exact ⟨World.ownsRow_nil _ _ _ _, by simp, by simp⟩
  case stop =>
    rintro D c pre W hD hpre ⟨⟨rfl, ini, last, v, e1, e2, e3, hcr, hO⟩, hB⟩ hK
    gi_wp2
    refine ⟨by simp, .inl ⟨_, _, rfl, run_takeDeferred hK, ?_⟩⟩
    have hc5 := cell_kept hcr (grownBy_putObj' _ D (.deferred none)) (fun r e => by cases e; exact ⟨_, hK, rfl⟩)
    refine ⟨v, ?_, ⟨_, rfl, ?_, hB.trans (belowK_b (w := w) (Nat.le_refl _) W D _ _ (by simp at hD; omega) hK rfl rfl)⟩⟩
    · simp [results, Try.f6, go_sem, hc5]
    · rw [trim_some hpre e1 e2 e3]
      exact hO.kept (grownBy_putObj' _ D (.deferred none)) (fun r e => by cases e; exact ⟨_, hK, rfl⟩)
theorem trim_any (v : Value) (zs : List Nat) (w : World) (hI : Bs w.heap.size w v zs) :
    Calls Try.prog 6 #[v] w fun e W' => ∃ v, e = .returned v ∧ Ow w.heap.size W' v (trim zs) ∧ Below w.heap.size w W' := by
  have hI' := hI
  obtain ⟨_, _, ao, cap, rfl, _⟩ := hI
  exact callsIn_wide.1 (trim_in ao cap zs w hI')
end Go.Proofs.Ytlccdceeppfleab
