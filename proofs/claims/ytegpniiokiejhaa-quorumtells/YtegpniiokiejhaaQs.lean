/- slices.SortFunc in memory, for lists of at most twelve numbers. -/
import Derived.Test.YtegpniiokiejhaaQm
import Derived.ChangeAlike
import Derived.RegionTactic
namespace Go.Proofs.Ytegpniiokiejhaa
open Go.ChangeShapes Go.WideShapes Go.ChangeAt Go.RowKit Go.Shelf
set_option maxHeartbeats 400000 in
theorem cmp_any (a b : Int) (w : World) (h : 0 ≤ a ∧ a ≤ 100 ∧ 0 ≤ b ∧ b ≤ 100) : Calls Try.prog 54 #[.int .i64 a, .int .i64 b] w fun e w' => e = .returned (.int .i64 (b - a)) ∧ w' = w := by
  obtain ⟨h1, h2, h3, h4⟩ := h
  go_enter Try.func54, Try.ntmps54
  go_wp2
  go_ret
  exact ⟨rfl, rfl⟩
/-- since w nothing of old has turned; block g, which is new, holds n numbers -/
structure Sg (w w' : World) (g n : Nat) (f : Nat → Int) : Prop where
  bel : Below w.heap.size w w'
  gb : w.heap.size ≤ g
  at_ : ∃ cur : Array Value, w'.heap[g]? = some (.cells cur 3) ∧ n ≤ cur.size ∧ ∀ k, k < n → cur[k]? = some (.int .i64 (f k))
theorem Sg.lt {w w' : World} {g n : Nat} {f : Nat → Int} (h : Sg w w' g n f) : g < w'.heap.size := by
  obtain ⟨cur, h1, _⟩ := h.at_
  exact heap_lt h1
theorem Sg.below {w w' w2 : World} {g n : Nat} {f : Nat → Int} (h : Sg w w' g n f) (hb : Below w'.heap.size w' w2) : Sg w w2 g n f := by
  have hl := h.lt
  obtain ⟨cur, h1, h2⟩ := h.at_
  exact ⟨h.bel.trans (hb.mono h.bel.size), h.gb, cur, (hb.block _ hl).trans h1, h2⟩
theorem Sg.congr {w w' : World} {g n : Nat} {f f' : Nat → Int} (h : Sg w w' g n f) (e : ∀ k, k < n → f k = f' k) : Sg w w' g n f' := by
  obtain ⟨cur, h1, h2, h3⟩ := h.at_
  exact ⟨h.bel, h.gb, cur, h1, h2, fun k hk => by rw [← e k hk]; exact h3 k hk⟩
theorem Sg.cell {w w' : World} {g n : Nat} {f : Nat → Int} (h : Sg w w' g n f) {k : Nat} (hk : k < n) : w'.cell? ⟨g, k, none⟩ = some (.int .i64 (f k)) := by
  obtain ⟨cur, h1, h2, h3⟩ := h.at_
  simp [World.cell?, h1, h3 k hk]
theorem Sg.frozen {w w' : World} {g n : Nat} {f : Nat → Int} (h : Sg w w' g n f) (k : Nat) : w'.frozen? ⟨g, k, none⟩ = false := by
  obtain ⟨cur, h1, h2, h3⟩ := h.at_
  simp [World.frozen?, h1]
theorem Sg.set {w w' : World} {g n : Nat} {f : Nat → Int} (h : Sg w w' g n f) {k : Nat} (hk : k < n) (v : Int) : Sg w (w'.setCell ⟨g, k, none⟩ (.int .i64 v)) g n (fun j => if j = k then v else f j) := by
  obtain ⟨cur, h1, h2, h3⟩ := h.at_
  refine ⟨h.bel.setCell (by exact h.gb) _, h.gb, cur.setIfInBounds k (.int .i64 v), ?_, by simp; exact h2, fun j hj => ?_⟩
  · simp only [World.setCell, Array.getElem?_modify, ↓reduceIte, h1, Option.map_some]
    rfl
  · rw [Array.getElem?_setIfInBounds]
    by_cases e : k = j
    · subst e
      rw [if_pos rfl, if_pos (by omega), if_pos rfl]
    · rw [if_neg e, if_neg (Ne.symm e)]
      exact h3 j hj
theorem Sg.drewN {w w' : World} {g n : Nat} {f : Nat → Int} (h : Sg w w' g n f) (m : Nat) : Sg w (w'.drewN m) g n f := ⟨⟨h.bel.os, h.bel.tape, h.bel.output, h.bel.size, h.bel.block⟩, h.gb, h.at_⟩
theorem Sg.drew {w w' : World} {g n : Nat} {f : Nat → Int} (h : Sg w w' g n f) : Sg w w'.drew g n f := ⟨⟨h.bel.os, h.bel.tape, h.bel.output, h.bel.size, h.bel.block⟩, h.gb, h.at_⟩
theorem Sg.is {w w' : World} {g n c : Nat} {f : Nat → Int} {L : List Int} (h : Sg w w' g n f) (hn : L.length = n) (hc : n ≤ c) (hb : n ≤ 12) (e : ∀ k, k < n → f k = L[k]?.getD 0) : Is w'.heap.size w' (.slice (some ⟨g, 0, none⟩) n c) L := by
  refine ⟨by omega, _, c, by rw [hn], by omega, .inr ⟨g, 0, rfl, h.lt, fun j hj => ?_⟩⟩
  rw [Nat.zero_add, h.cell (by omega), e j (by omega)]
/-- the list while number i moves: it is at place j -/
def fj (L : List Int) (i j : Nat) : Nat → Int := fun k => if k < j then (srt (L.take i))[k]?.getD 0 else if k = j then L[i]?.getD 0 else if k ≤ i then (srt (L.take i))[k - 1]?.getD 0 else L[k]?.getD 0
/-- the list when the first i are in order -/
def fi (L : List Int) (i : Nat) : Nat → Int := fun k => if k < i then (srt (L.take i))[k]?.getD 0 else L[k]?.getD 0
theorem fj_start (L : List Int) (i k : Nat) : fi L i k = fj L i i k := by
  unfold fi fj
  by_cases a : k < i
  · rw [if_pos a, if_pos a]
  · rw [if_neg a, if_neg a]
    by_cases b : k = i
    · subst b; rw [if_pos rfl]
    · rw [if_neg b, if_neg (by omega)]
theorem fj_swap (L : List Int) (i j k : Nat) (hj : j + 1 ≤ i) : (if k = j then fj L i (j + 1) (j + 1) else (if k = j + 1 then fj L i (j + 1) j else fj L i (j + 1) k)) = fj L i j k := by
  unfold fj
  by_cases a : k = j
  · subst a
    rw [if_pos rfl, if_neg (by omega), if_pos rfl, if_neg (by omega), if_pos rfl]
  · rw [if_neg a]
    by_cases b : k = j + 1
    · subst b
      rw [if_pos rfl, if_pos (by omega), if_neg (by omega), if_neg (by omega), if_pos hj, Nat.add_sub_cancel]
    · rw [if_neg b]
      by_cases c : k < j
      · rw [if_pos c, if_pos (by omega)]
      · rw [if_neg c, if_neg (by omega), if_neg b, if_neg a]
theorem fall_get {O : List Int} (h : Fall O) {a b : Nat} (hab : a ≤ b) (hb : b < O.length) : O[b]?.getD 0 ≤ O[a]?.getD 0 := by
  rcases Nat.lt_or_eq_of_le hab with c | rfl
  · have := List.pairwise_iff_getElem.1 h a b (by omega) hb c
    rw [List.getElem?_eq_getElem hb, List.getElem?_eq_getElem (show a < O.length by omega)]
    exact this
  · exact Int.le_refl _
theorem fj_end (L : List Int) {i j : Nat} (hi : i < L.length) (hj : j ≤ i) (h1 : j = 0 ∨ L[i]?.getD 0 ≤ (srt (L.take i))[j - 1]?.getD 0) (h2 : ∀ k, j ≤ k → k < i → (srt (L.take i))[k]?.getD 0 < L[i]?.getD 0) (k : Nat) : fj L i j k = fi L (i + 1) k := by
  have hl := srt_len L i (by omega)
  have hf := srt_fall L i (by omega)
  have e : srt (L.take (i + 1)) = (srt (L.take i)).take j ++ L[i]?.getD 0 :: (srt (L.take i)).drop j := by
    rw [srt_take hi]
    refine ins_at (by omega) (fun y hy => ?_) (fun y hy => ?_)
    · obtain ⟨n, hn, rfl⟩ := List.getElem_of_mem hy
      rw [List.length_take] at hn
      rcases h1 with h | h
      · omega
      · have := fall_get hf (a := n) (b := j - 1) (by omega) (by omega)
        rw [List.getElem?_eq_getElem (show n < (srt (L.take i)).length by omega)] at this
        rw [List.getElem_take]
        simp only [Option.getD_some] at this
        omega
    · obtain ⟨n, hn, rfl⟩ := List.getElem_of_mem hy
      rw [List.length_drop] at hn
      have := h2 (j + n) (by omega) (by omega)
      rw [List.getElem?_eq_getElem (show j + n < (srt (L.take i)).length by omega)] at this
      rw [List.getElem_drop]
      exact this
  unfold fj fi
  rw [e]
  by_cases a : k < j
  · rw [if_pos a, if_pos (by omega), List.getElem?_append_left (by rw [List.length_take]; omega), List.getElem?_take_of_lt a]
  · rw [if_neg a]
    by_cases b : k = j
    · subst b
      rw [if_pos rfl, if_pos (by omega), List.getElem?_append_right (by rw [List.length_take]; omega), List.length_take, Nat.min_eq_left (by omega), Nat.sub_self]
      rfl
    · rw [if_neg b]
      by_cases c : k ≤ i
      · rw [if_pos c, if_pos (by omega), List.getElem?_append_right (by rw [List.length_take]; omega), List.length_take, Nat.min_eq_left (by omega), show k - j = (k - 1 - j) + 1 by omega, List.getElem?_cons_succ, List.getElem?_drop, show j + (k - 1 - j) = k - 1 by omega]
      · rw [if_neg c, if_neg (by omega)]
set_option maxRecDepth 100000 in
set_option maxHeartbeats 4000000 in
theorem insSort_any (L : List Int) (n g c : Nat) (w w0 : World) (hn : L.length = n) (h12 : n ≤ 12) (hw : ∀ x ∈ L, 0 ≤ x ∧ x ≤ 100) (hS : Sg w0 w g n (fi L 0)) :
    Calls Try.prog 59 #[.slice (some ⟨g, 0, none⟩) n c, .int .i64 0, .int .i64 n, .func (.func 54) #[] #[]] w fun e w' => e = .returned (.tuple #[]) ∧ Sg w0 w' g n (fi L n) := by
  have hmx : Try.prog.follows Departure.mixedOrders = true := by kernel_rfl
  have HW := hid_of hw
  have HN := hid_of hn
  have H1 : Hid (Sg w0 w g n (fi L 1)) := hid_of (hS.congr fun k hk => by
    unfold fi
    rw [if_neg (by omega)]
    by_cases e : k < 1
    · have : k = 0 := by omega
      subst this
      rw [if_pos e, srt_take (by omega)]
      rfl
    · rw [if_neg e])
  clear hS hw hn
  go_enter Try.func59, Try.ntmps59
  go_wp2_with fail
  go_loopw [8] (fun u w' => ∃ i : Nat, 1 ≤ i ∧ (i ≤ n ∨ i = 1) ∧ u = .int .i64 i ∧ Hid (Sg w0 w' g n (fi L i))) (fun u _ => n - (intOf u).toNat)
  case atStart => exact ⟨1, by omega, by omega, rfl, H1⟩
  case round =>
    obtain ⟨i, i1, i2, rfl, HS⟩ := hrel
    by_cases hlt : i < n
    · have tl : (i : Int) < (n : Int) := by omega
      have HJ : Hid (Sg w0 wr g n (fj L i i)) := hid_of (HS.out.congr fun k _ => fj_start L i k)
      clear HS
      go_wp2_with fail
      go_loopw [9] (fun u w' => ∃ j : Nat, j ≤ i ∧ u = .int .i64 j ∧ Hid (Sg w0 w' g n (fj L i j)) ∧ Hid (∀ k, j ≤ k → k < i → (srt (L.take i))[k]?.getD 0 < L[i]?.getD 0)) (fun u _ => (intOf u).toNat)
      case atStart => exact ⟨i, by omega, rfl, HJ, fun k h1 h2 => by omega⟩
      case round =>
        obtain ⟨j, hj, rfl, HJ, HP⟩ := hrel
        have hil : i < L.length := by have := HN.out; omega
        by_cases c0 : j = 0
        · have HE := hid_of (HJ.out.congr (fun k _ => fj_end L hil hj (.inl c0) HP.out k))
          subst c0
          have z0 : decide ((0 : Int) < 0) = false := rfl
          go_wp2_with fail
          go_quiet (fail)
          go_wp2_with fail
          refine ⟨⟨i + 1, by omega, by omega, by go_num, HE.out.drewN _⟩, by simp [intOf]; omega⟩
        · obtain ⟨q, hq1⟩ : ∃ q, j = q + 1 := ⟨j - 1, by omega⟩
          have hx := HJ.out.cell (k := j) (by omega)
          have hy := HJ.out.cell (k := q) (by omega)
          have ex : fj L i j j = L[i]?.getD 0 := by unfold fj; rw [if_neg (by omega), if_pos rfl]
          have ey : fj L i j q = (srt (L.take i))[q]?.getD 0 := by unfold fj; rw [if_pos (by omega)]
          have bx := HW.out (L[i]?.getD 0) (by rw [List.getElem?_eq_getElem hil]; exact List.getElem_mem _)
          have hql : q < (srt (L.take i)).length := by rw [srt_len L i (by omega)]; omega
          have by_ := HW.out ((srt (L.take i))[q]?.getD 0) (srt_mem i (by omega) (by rw [List.getElem?_eq_getElem hql]; exact List.getElem_mem _))
          have HSW := hid_of (fun k => fj_swap L i q k (by omega))
          rw [← hq1] at HSW
          rw [ex] at hx HSW
          rw [ey] at hy HSW
          have HFE := hid_of (fun h => fj_end L hil hj (.inr h) HP.out)
          have hp1 : j - 1 = q := by omega
          rw [hp1] at HFE
          have HPq : Hid ((srt (L.take i))[q]?.getD 0 < L[i]?.getD 0 → ∀ k, q ≤ k → k < i → (srt (L.take i))[k]?.getD 0 < L[i]?.getD 0) := hid_of fun h k h1 h2 => by
            by_cases e : k = q
            · subst e; exact h
            · exact HP.out k (by omega) h2
          have HYE0 : Hid (fj L i j q = (srt (L.take i))[q]?.getD 0) := ey
          generalize (srt (L.take i))[q]?.getD 0 = y at *
          have HYE : Hid (fj L i j q = y) := HYE0
          clear HYE0
          obtain ⟨x, hxe⟩ : ∃ x, L[i]?.getD 0 = x := ⟨_, rfl⟩
          rw [hxe] at hx bx HSW HPq HFE
          have HXE := hid_of hxe
          have HSW2 : Hid (∀ k, (if k = q then x else (if k = j then y else fj L i j k)) = fj L i q k) := HSW
          clear hxe ex ey hp1 hql HSW
          obtain ⟨x1, x2⟩ := bx
          obtain ⟨y1, y2⟩ := by_
          have g1 : IntKind.i64.wrap ((j : Int) - 1) = (q : Int) := by rw [Go.IntWalk.i64_in _ (by omega)]; omega
          have z0 : decide ((0 : Int) < (j : Int)) = true := decide_eq_true (by omega)
          have z0' : 0 < j := by omega
          have zq : q < j := by omega
          have zj : j ≤ q + 1 := by omega
          have z1 : j < n := by omega
          have z2 : q < n := by omega
          have z3 : (q : Int) < (n : Int) := by omega
          have z4 : (j : Int) < (n : Int) := by omega
          clear hq1 c0
          by_cases c1 : y - x < 0
          · have t1 : decide (y - x < 0) = true := decide_eq_true c1
            go_wp2_with fail
            go_quiet ((go_at_call 54; exact Calls.quiet_of_same (cmp_any _ _ _ ⟨x1, x2, y1, y2⟩)))
            go_wp2_with fail
            have HJ2 := hid_of (HJ.out.drewN nq)
            generalize wr.drewN nq = W at *
            have e1 := HJ2.out.frozen j
            have e2 := HJ2.out.frozen q
            have hx2 : W.cell? ⟨g, j, none⟩ = some (.int .i64 x) := by have := HJ2.out.cell (k := j) z1; rw [this]; unfold fj; rw [if_neg (by omega), if_pos rfl, HXE.out]
            have hy2 : W.cell? ⟨g, q, none⟩ = some (.int .i64 y) := by have := HJ2.out.cell (k := q) z2; rw [this, HYE.out]
            have HJ3 := hid_of (HJ2.out.set z1 y)
            have e3 := HJ3.out.frozen q
            have hz2 : (W.setCell ⟨g, j, none⟩ (.int .i64 y)).cell? ⟨g, q, none⟩ = some (.int .i64 y) := by
              have := HJ3.out.cell (k := q) z2
              rw [this, if_neg (by omega), HYE.out]
            have HJ4 := hid_of ((HJ3.out.set z2 x).congr (fun k _ => HSW2.out k))
            have HPn := hid_of (HPq.out (by omega))
            clear hx hy HJ
            go_region
            go_wp2_with fail
            refine ⟨⟨q, by omega, rfl, HJ4.out.drew, fun k h1 h2 => by rw [HXE.out]; exact HPn.out k h1 h2⟩, by simp [intOf]; omega⟩
          · have t1 : decide (y - x < 0) = false := decide_eq_false c1
            have HE := hid_of (HJ.out.congr (fun k _ => HFE.out (by omega) k))
            go_wp2_with fail
            go_quiet ((go_at_call 54; exact Calls.quiet_of_same (cmp_any _ _ _ ⟨x1, x2, y1, y2⟩)))
            go_wp2_with fail
            refine ⟨⟨i + 1, by omega, by omega, by go_num, HE.out.drewN _⟩, by simp [intOf]; omega⟩
    · have tl : ¬ (i : Int) < (n : Int) := by omega
      have HE : Hid (Sg w0 wr g n (fi L n)) := hid_of (by
        by_cases e : i = n
        · exact e ▸ HS.out
        · exact HS.out.congr fun k hk => by omega)
      go_wp2_with fail
      go_end0
      exact ⟨rfl, HE.out⟩
end Go.Proofs.Ytegpniiokiejhaa
