/- What poly.Meet answers, for every two lists of bytes. -/
import Derived.Test.YtlccdceeppfleabDiv
namespace Go.Proofs.Ytlccdceeppfleab
open Go.ChangeShapes Go.WideShapes Go.ChangeAt Go.RowKit Go.Shelf
/-- Meet's lists, k places met: what was met, and what is 0 there -/
def mst (xs ys : List Nat) : Nat → Option (List Nat × List Nat)
  | 0 => some (List.replicate xs.length 0, [1])
  | k + 1 => match mst xs ys k with
    | none => none
    | some (M, G) => if pval G (xs[k]?.getD 0) = 0 then none
      else some (addAt M 0 G (Gf.gm (ys[k]?.getD 0 ^^^ pval M (xs[k]?.getD 0)) (Gf.inv (pval G (xs[k]?.getD 0)))), pm G [xs[k]?.getD 0, 1])
theorem prow_top (P Q : List Nat) (hQ : 0 < P.length) : ∀ k, k ≤ P.length → (prow P Q k)[P.length + Q.length - 1]?.getD 0 = 0
  | 0, _ => by
    unfold prow
    by_cases h : P.length + Q.length - 1 < P.length + Q.length
    · simp [h]
    · simp [h]
  | k + 1, hk => by
    have ih := prow_top P Q hQ k (by omega)
    unfold prow
    rw [addAt_get (by rw [prow_len]; omega), if_neg (by omega)]
    exact ih
theorem trim_lt_len {L : List Nat} {n : Nat} (hl : L.length ≤ n + 1) (h0 : L[n]?.getD 0 = 0) : (trim L).length ≤ n := by
  by_cases h : L.length ≤ n
  · exact Nat.le_trans (trim_len L) h
  · have hn : n < L.length := by omega
    have e : L = L.take n ++ [L[n]] := by
      rw [← List.take_succ_eq_append_getElem hn, List.take_of_length_le (by omega)]
    have h1 : L[n] = 0 := by rw [List.getElem?_eq_getElem hn] at h0; exact h0
    rw [e, trim_snoc, if_pos h1]
    exact Nat.le_trans (trim_len _) (by rw [List.length_take]; omega)
theorem pm_len (G : List Nat) (x : Nat) : (pm G [x, 1]).length ≤ G.length + 1 := by
  unfold pm
  by_cases hG : 0 < G.length
  · exact trim_lt_len (by rw [prow_len]; simp) (by have := prow_top G [x, 1] hG G.length (Nat.le_refl _); simpa using this)
  · obtain rfl : G = [] := List.eq_nil_of_length_eq_zero (by omega)
    have e : trim (prow [] [x, 1] ([] : List Nat).length) = [] := by
      have := trim_zeros [] (List.replicate 2 0) (by intro y hy; exact List.eq_of_mem_replicate hy)
      simpa [prow, trim_nil] using this
    rw [e]; simp
theorem bs_lit2 {w : World} (x : Nat) (hx : x < 256) : Bs (w.heap.size + 1) (w.alloc (.cells #[.int .u8 (x : Nat), .int .u8 1] 5)) (.slice (some ⟨w.heap.size, 0, none⟩) 2 2) [x, 1] := by
  refine ⟨by simp; omega, by simp, _, _, rfl, by simp, by simp, .inr ⟨w.heap.size, 0, rfl, by omega, fun j hj => ?_⟩⟩
  match j with
  | 0 => simp [go_sem]
  | 1 => simp [go_sem]
  | j + 2 => simp at hj; omega
theorem pval_lt {L : List Nat} (hL : ∀ x ∈ L, x < 256) (x : Nat) : pval L x < 256 := by
  induction L with
  | nil => simp [pval]
  | cons a r ih =>
    have : pval (a :: r) x = Gf.gm (pval r x) x ^^^ a := rfl
    rw [this]
    exact Gf.xlt (Gf.gm_lt (ih (fun y hy => hL y (by simp [hy])))) (hL a (by simp))
theorem pm_lt {P Q : List Nat} (hQ : ∀ x ∈ Q, x < 256) : ∀ x ∈ pm P Q, x < 256 := by
  intro x hx
  refine prow_lt (P := P) hQ P.length x ?_
  unfold pm trim at hx
  rw [List.mem_reverse] at hx
  have := (List.dropWhile_sublist (fun x => x == 0) (l := (prow P Q P.length).reverse)).subset hx
  simpa using this
set_option maxRecDepth 100000 in
set_option maxHeartbeats 1000000 in
theorem meet_long (xv yv : Value) (xs ys : List Nat) (w : World) (hX : Bs w.heap.size w xv xs) (hY : Bs w.heap.size w yv ys) (hl : 64 < xs.length) :
    Calls Try.prog 11 #[xv, yv] w fun e w' => e = .returned (.tuple #[.slice none 0 0, .int .i64 2]) ∧ Below w.heap.size w w' := by
  obtain ⟨_, p2, ao, cap, rfl, _⟩ := hX
  obtain ⟨_, q2, bo, cbp, rfl, _⟩ := hY
  have HE : Hid (longs [xs.length] = true) := by show longs _ = true; rw [longs_one]; simp [hl]
  clear hl
  go_enter Try.func11, Try.ntmps11
  go_wp2_with fail
  refine (check_any w.heap.size 1 1 [xs.length] _ rfl (by omega) (by simp; omega) (fun j h => by match j with | 0 => exact ⟨ao, cap, by simp [go_sem]⟩ | j + 1 => simp at h)).mono ?_
  rintro e w1 ⟨rfl, rfl⟩
  rw [HE.out]
  simp only [if_true]
  go_wp2_with fail
  go_ret2
  exact ⟨rfl, (Below.refl _ _).alloc (Nat.le_refl _) _⟩
set_option maxRecDepth 100000 in
set_option maxHeartbeats 1000000 in
theorem meet_form (xv yv : Value) (xs ys : List Nat) (w : World) (hX : Bs w.heap.size w xv xs) (hY : Bs w.heap.size w yv ys) (hl : xs.length ≤ 64) (hm : xs.length ≠ ys.length) :
    Calls Try.prog 11 #[xv, yv] w fun e w' => e = .returned (.tuple #[.slice none 0 0, .int .i64 1]) ∧ Below w.heap.size w w' := by
  obtain ⟨_, p2, ao, cap, rfl, _⟩ := hX
  obtain ⟨_, q2, bo, cbp, rfl, _⟩ := hY
  have HE : Hid (longs [xs.length] = false) := by show longs _ = false; rw [longs_one, decide_eq_false (by omega)]
  have hne : ((xs.length : Int) != (ys.length : Int)) = true := by rw [bne_iff_ne]; omega
  go_enter Try.func11, Try.ntmps11
  go_wp2_with fail
  refine (check_any w.heap.size 1 1 [xs.length] _ rfl (by omega) (by simp; omega) (fun j h => by match j with | 0 => exact ⟨ao, cap, by simp [go_sem]⟩ | j + 1 => simp at h)).mono ?_
  rintro e w1 ⟨rfl, rfl⟩
  rw [HE.out]
  go_wp2_with fail
  go_ret2
  exact ⟨rfl, (Below.refl _ _).alloc (Nat.le_refl _) _⟩
theorem divide_zero_eq (a b : Int) (hb : b = 0) (w : World) :
    Calls Try.prog 21 #[.int .u8 a, .int .u8 b] w fun e w' => e = .returned (.tuple #[.int .u8 0, .int .i64 5]) ∧ Below w.heap.size w w' := by
  subst hb; exact divide_zero a w
theorem below_of_drew {w w' : World} (h : Below w.drew.heap.size w.drew w') : Below w.heap.size w w' := ⟨h.os, h.tape, h.output, h.size, h.block⟩
theorem mst_none {xs ys : List Nat} {k : Nat} (h : mst xs ys k = none) : ∀ m, mst xs ys (k + m) = none
  | 0 => h
  | m + 1 => by rw [← Nat.add_assoc, mst, mst_none h m]
theorem Bs.belowDrew {n : Nat} {w : World} {v : Value} {L : List Nat} (h : Bs n w v L) : Bs n w.drew v L := h
/-- what Meet answers, told by its lists -/
def MeetEnd (N : Nat) (o : Option (List Nat × List Nat)) (e : Ending) (w' : World) : Prop := match o with
  | none => e = .returned (.tuple #[.slice none 0 0, .int .i64 6])
  | some s => ∃ v, e = .returned (.tuple #[v, .int .i64 0]) ∧ Ow N w' v (trim s.1)
theorem Ow.only {base g : Nat} {w w' : World} {v : Value} {L : List Nat} {o : Obj} (h : Ow base w v L) (hO : OnlyAt g o w w') (hg : g < base) : Ow base w' v L := by
  obtain ⟨h1, h2, h3⟩ := h
  refine ⟨⟨h1.1, ?_⟩, h2, h3⟩
  rcases h1.2 with h4 | ⟨g', cap, cur, rfl, h5, h6, h7⟩
  · exact .inl h4
  · exact .inr ⟨g', cap, cur, rfl, h5, (hO.block g' (by omega)).trans h6, h7⟩
/-- where Meet's lists lie, k places met -/
def MeetI (w : World) (xs ys : List Nat) (k : Nat) (gv : Value) (W : World) : Prop :=
  ∃ M G, mst xs ys k = some (M, G) ∧ M.length = xs.length ∧ (∀ x ∈ M, x < 256) ∧ G.length ≤ k + 1 ∧ Ow (w.heap.size + 1 + 1) W gv G ∧ W.heap[w.heap.size + 1]? = some (.cells (cellsB M).toArray 5 (0, 0)) ∧ Below w.heap.size w W
set_option maxRecDepth 100000 in
set_option maxHeartbeats 2000000 in
theorem meet_any (xv yv : Value) (xs ys : List Nat) (w : World) (hX : Bs w.heap.size w xv xs) (hY : Bs w.heap.size w yv ys) (hl : xs.length ≤ 64) (hm : ys.length = xs.length) :
    Calls Try.prog 11 #[xv, yv] w fun e w' => MeetEnd w.heap.size (mst xs ys xs.length) e w' ∧ Below w.heap.size w w' := by
  have HX : Hid (Bs w.heap.size w xv xs) := hX
  have HY : Hid (Bs w.heap.size w yv ys) := hY
  obtain ⟨_, p2, ao, cap, rfl, _, _, p6⟩ := hX
  obtain ⟨_, q2, bo, cbp, rfl, _, _, q6⟩ := hY
  have HE : Hid (longs [xs.length] = false) := by show longs _ = false; rw [longs_one, decide_eq_false (by omega)]
  have hne : ((xs.length : Int) != (ys.length : Int)) = false := by rw [hm]; simp
  have HM : Hid (ys.length = xs.length) := hm
  have hmk := mk22 xs.length (by omega)
  have P6 := hid_of p6
  have Q6 := hid_of q6
  clear p6 q6 hm
  go_enter Try.func11, Try.ntmps11
  go_wp2_with fail
  refine (check_any w.heap.size 1 1 [xs.length] _ rfl (by omega) (by simp; omega) (fun j h => by match j with | 0 => exact ⟨ao, cap, by simp [go_sem]⟩ | j + 1 => simp at h)).mono ?_
  rintro e w1 ⟨rfl, rfl⟩
  rw [HE.out]
  go_wp2_with fail
  have hg0 : (((w.alloc (.cells #[.slice ao xs.length cap] 22)).alloc (.cells (zc xs.length) 5)).alloc (.cells #[.int .u8 1] 5)).heap[w.heap.size + 1]? = some (.cells (zc xs.length) 5 (0, 0)) := by
    rw [Below.heap_alloc _ _ _ (by simp)]
    have := World.alloc_heap_new (w.alloc (.cells #[.slice ao xs.length cap] 22)) (.cells (zc xs.length) 5)
    rw [World.size_alloc] at this
    exact this
  have hB0 : Below w.heap.size w (((w.alloc (.cells #[.slice ao xs.length cap] 22)).alloc (.cells (zc xs.length) 5)).alloc (.cells #[.int .u8 1] 5)) := (((Below.refl _ _).alloc (Nat.le_refl _) _).alloc (by simp) _).alloc (by simp; omega) _
  have hO0 : Ow (w.heap.size + 1 + 1) (((w.alloc (.cells #[.slice ao xs.length cap] 22)).alloc (.cells (zc xs.length) 5)).alloc (.cells #[.int .u8 1] 5)) (.slice (some ⟨w.heap.size + 1 + 1, 0, none⟩) 1 1) [1] := by
    have := World.ownsRow_lit (base := w.heap.size + 1 + 1) (e := 5) (size := 1) ((w.alloc (.cells #[.slice ao xs.length cap] 22)).alloc (.cells (zc xs.length) 5)) #[.int .u8 1] 1 (by simp) (by decide) rfl
    simp only [World.size_alloc] at this
    exact ⟨this, by simp, by simp⟩
  generalize ((w.alloc (.cells #[.slice ao xs.length cap] 22)).alloc (.cells (zc xs.length) 5)).alloc (.cells #[.int .u8 1] 5) = W0 at *
  have HI0 : Hid (MeetI w xs ys 0 (.slice (some ⟨w.heap.size + 1 + 1, 0, none⟩) 1 1) W0) := ⟨List.replicate xs.length 0, [1], rfl, by simp, by intro x hx; simp at hx; omega, by simp, hO0, hg0, hB0⟩
  clear hg0 hB0 hO0 hmk
  go_loopw [8, 30] (fun gv i w' => ∃ k : Nat, k ≤ xs.length ∧ i = .int .i64 k ∧ Hid (MeetI w xs ys k gv w')) (fun _ i _ => xs.length - (intOf i).toNat)
  case atStart => exact ⟨0, by omega, rfl, HI0⟩
  case round =>
    obtain ⟨k, hk, rfl, HI⟩ := hrel
    clear HI0
    by_cases hlt : k < xs.length
    · obtain ⟨M, G, e1, e2, e3, e4, hO, hg, hB⟩ := HI.out
      rcases P6.out with h | ⟨b, off, rfl, hb, hc⟩
      · rw [h] at hlt; simp at hlt
      rcases Q6.out with h | ⟨b', off', rfl, hb', hc'⟩
      · have := HM.out; rw [h] at this; simp at this; omega
      have hx0 := (hB.cell (p := ⟨b, off + k, none⟩) hb).trans (hc k hlt)
      have hy0 := (hB.cell (p := ⟨b', off' + k, none⟩) hb').trans (hc' k (by have := HM.out; omega))
      obtain ⟨x, hx⟩ : ∃ x, xs[k]?.getD 0 = x := ⟨_, rfl⟩
      obtain ⟨y, hy⟩ : ∃ y, ys[k]?.getD 0 = y := ⟨_, rfl⟩
      rw [hx] at hx0
      rw [hy] at hy0
      have hx2 : x < 256 := by rw [← hx]; exact getD_lt HX.out.1 k
      have hy2 : y < 256 := by rw [← hy]; exact getD_lt HY.out.1 k
      have hgs : w.heap.size + 1 < wr.heap.size := (Array.getElem?_eq_some_iff.1 hg).1
      have hbM : Bs wr.heap.size wr (.slice (some ⟨w.heap.size + 1, 0, none⟩) xs.length xs.length) M := by
        refine ⟨e3, by omega, _, _, by rw [e2], by omega, by simp, .inr ⟨w.heap.size + 1, 0, rfl, hgs, fun j hj => ?_⟩⟩
        rw [Nat.zero_add]
        simp only [World.cell?, hg]
        rw [if_neg (by simp), List.getElem?_toArray, cellsB_get hj]
      have HbM := hid_of hbM
      have HbG := hid_of hO.bs
      have HOG := hid_of hO
      have Hx := hid_of hx
      have Hy := hid_of hy
      have He1 := hid_of e1
      have He2 := hid_of e2
      have He3 := hid_of e3
      have Hg := hid_of hg
      have HB := hid_of hB
      have hu : pval M x < 256 := pval_lt e3 x
      have hv : pval G x < 256 := pval_lt hO.2.1 x
      have hyu := u8_xor_nat y (pval M x) hy2 hu
      have hyu2 : y ^^^ pval M x < 256 := Gf.xlt hy2 hu
      have hym : k < ys.length := by have := HM.out; omega
      clear hc hc' hx hy e1 e2 e3 hO hg hB hbM
      go_wp2_with fail
      rename_i K11 hK11
      generalize hmv : Value.slice (some ⟨w.heap.size + 1, 0, none⟩) xs.length xs.length = mv at *
      have Hmv := hid_of hmv
      clear hmv
      have hby : b' < wr.heap.size := cell_lt hy0
      by_cases hv0 : pval G x = 0
      · have Hv0 := hid_of hv0
        clear hv0
        refine Code.wp_mono (Q := Exit.then (fun a w2 => a = { tmps := #[(.slice (some ⟨b, off, none⟩) xs.length cap), (.slice (some ⟨b', off', none⟩) ys.length cbp), undef, undef, u4, u5, (.int .i64 0), mv, u8, (.int .i64 k), (.int .u8 x), (.int .u8 0), (.int .i64 5), (.slice (some ⟨b, off, none⟩) xs.length cap), (.slice (some ⟨w.heap.size, 0, none⟩) 1 1), (.int .i64 0), (.int .i64 0), (.bool false), undef, (.slice (some ⟨b, off, none⟩) xs.length cap), (.int .i64 xs.length), (.slice (some ⟨b', off', none⟩) ys.length cbp), (.int .i64 ys.length), (.bool false), (.slice (some ⟨b, off, none⟩) xs.length cap), (.int .i64 xs.length), mv, (.slice (some ⟨w.heap.size + 1 + 1, 0, none⟩) 1 1), (.slice (some ⟨b, off, none⟩) xs.length cap), (.int .i64 xs.length), (.int .i64 k), (.bool true), (.int .i64 k), (.pointer (some ⟨b, off + k, none⟩)), (.int .u8 x), (.tuple #[.int .u8 0, .int .i64 5]), (.slice (some ⟨b', off', none⟩) ys.length cbp), (.int .i64 k), (.pointer (some ⟨b', off' + k, none⟩)), (.int .u8 y), mv, (.int .u8 x), (.int .u8 (pval M x)), (.int .u8 (y ^^^ pval M x : Nat)), u8, (.int .u8 x), (.int .u8 (pval G x)), (.tuple #[.int .u8 0, .int .i64 5]), (.int .u8 0), (.int .i64 5), u50, u51, u52, u53, u54, u55, u56, u57, u58, u59, u60, undef, undef], defers := [] } ∧ Below wr.heap.size wr w2) (fun _ _ _ => False)) ?fin ?reg
        case reg =>
          clear hK11
          go_region_with (first
            | (go_at_call_of 7 mv; refine (value_any _ _ (by omega) (by omega) M _ (by exact HbM.out.belowDrew)).mono ?_; rintro e w1 ⟨rfl, hB1⟩; rw [Int.toNat_natCast]; have hy1 := (hB1.cell (p := ⟨b', off' + k, none⟩) hby).trans hy0)
            | (go_at_call_of 7 u8; refine (value_any _ _ (by omega) (by omega) G _ (by exact (HbG.out.belowDrew.below hB1).mono hB1.size)).mono ?_; rintro e w2 ⟨rfl, hB2⟩; rw [Int.toNat_natCast]; have hy2' := (hB2.cell (p := ⟨b', off' + k, none⟩) (Nat.lt_of_lt_of_le hby hB1.size)).trans hy1)
            | (go_at_call 21; refine (divide_zero_eq _ _ (by rw [Hv0.out]; rfl) _).mono ?_; rintro e w3 ⟨rfl, hB3⟩; have hy3 := (hB3.cell (p := ⟨b', off' + k, none⟩) (Nat.lt_of_lt_of_le (Nat.lt_of_lt_of_le hby hB1.size) hB2.size)).trans hy2'))
          all_goals
            refine ⟨rfl, ?_⟩
            have g1 : Below wr.heap.size wr w1 := below_of_drew hB1
            have g2 := g1.trans (hB2.mono g1.size)
            exact g2.trans (hB3.mono g2.size)
        case fin =>
          intro e a w2 h
          cases e <;> first | exact h.elim | skip
          obtain ⟨rfl, hBr⟩ : a = _ ∧ _ := h
          show K11 _ w2
          apply hK11
          go_wp2_with fail
          go_ret2
          have hn : mst xs ys (k + 1) = none := by rw [mst, He1.out]; simp only [Hx.out, Hv0.out, if_true]
          have hn2 := mst_none hn (xs.length - (k + 1))
          rw [show k + 1 + (xs.length - (k + 1)) = xs.length by omega] at hn2
          rw [hn2]
          exact ⟨by show _ = _; rfl, HB.out.trans (hBr.mono HB.out.size)⟩
      · have hv1 : 0 < pval G x := by omega
        have hi1 : Gf.inv (pval G x) < 256 := Gf.inv_lt _
        refine Code.wp_mono (Q := Exit.then (fun a w2 => a = { tmps := #[(.slice (some ⟨b, off, none⟩) xs.length cap), (.slice (some ⟨b', off', none⟩) ys.length cbp), undef, undef, u4, u5, (.int .i64 0), mv, u8, (.int .i64 k), (.int .u8 x), (.int .u8 (Gf.gm (y ^^^ pval M x) (Gf.inv (pval G x)))), (.int .i64 0), (.slice (some ⟨b, off, none⟩) xs.length cap), (.slice (some ⟨w.heap.size, 0, none⟩) 1 1), (.int .i64 0), (.int .i64 0), (.bool false), undef, (.slice (some ⟨b, off, none⟩) xs.length cap), (.int .i64 xs.length), (.slice (some ⟨b', off', none⟩) ys.length cbp), (.int .i64 ys.length), (.bool false), (.slice (some ⟨b, off, none⟩) xs.length cap), (.int .i64 xs.length), mv, (.slice (some ⟨w.heap.size + 1 + 1, 0, none⟩) 1 1), (.slice (some ⟨b, off, none⟩) xs.length cap), (.int .i64 xs.length), (.int .i64 k), (.bool true), (.int .i64 k), (.pointer (some ⟨b, off + k, none⟩)), (.int .u8 x), (.tuple #[.int .u8 (Gf.gm (y ^^^ pval M x) (Gf.inv (pval G x))), .int .i64 0]), (.slice (some ⟨b', off', none⟩) ys.length cbp), (.int .i64 k), (.pointer (some ⟨b', off' + k, none⟩)), (.int .u8 y), mv, (.int .u8 x), (.int .u8 (pval M x)), (.int .u8 (y ^^^ pval M x : Nat)), u8, (.int .u8 x), (.int .u8 (pval G x)), (.tuple #[.int .u8 (Gf.gm (y ^^^ pval M x) (Gf.inv (pval G x))), .int .i64 0]), (.int .u8 (Gf.gm (y ^^^ pval M x) (Gf.inv (pval G x)))), (.int .i64 0), u50, u51, u52, u53, u54, u55, u56, u57, u58, u59, u60, undef, undef], defers := [] } ∧ Below wr.heap.size wr w2) (fun _ _ _ => False)) ?fin ?reg
        case reg =>
          clear hK11
          go_region_with (first
            | (go_at_call_of 7 mv; refine (value_any _ _ (by omega) (by omega) M _ (by exact HbM.out.belowDrew)).mono ?_; rintro e w1 ⟨rfl, hB1⟩; rw [Int.toNat_natCast]; have hy1 := (hB1.cell (p := ⟨b', off' + k, none⟩) hby).trans hy0)
            | (go_at_call_of 7 u8; refine (value_any _ _ (by omega) (by omega) G _ (by exact (HbG.out.belowDrew.below hB1).mono hB1.size)).mono ?_; rintro e w2 ⟨rfl, hB2⟩; rw [Int.toNat_natCast]; have hy2' := (hB2.cell (p := ⟨b', off' + k, none⟩) (Nat.lt_of_lt_of_le hby hB1.size)).trans hy1)
            | (go_at_call 21; refine (divide_any _ _ _ (by omega) (by omega) (by omega) (by omega)).mono ?_; rw [Int.toNat_natCast, Int.toNat_natCast]; rintro e w3 ⟨rfl, hB3⟩; have hy3 := (hB3.cell (p := ⟨b', off' + k, none⟩) (Nat.lt_of_lt_of_le (Nat.lt_of_lt_of_le hby hB1.size) hB2.size)).trans hy2'))
          all_goals
            refine ⟨rfl, ?_⟩
            have g1 : Below wr.heap.size wr w1 := below_of_drew hB1
            have g2 := g1.trans (hB2.mono g1.size)
            exact g2.trans (hB3.mono g2.size)
        case fin =>
          intro e a w2 h
          cases e <;> first | exact h.elim | skip
          obtain ⟨rfl, hBr⟩ : a = _ ∧ _ := h
          show K11 _ w2
          apply hK11
          have hf : Gf.gm (y ^^^ pval M x) (Gf.inv (pval G x)) < 256 := Gf.gm_lt hyu2
          obtain ⟨ff, hff⟩ : ∃ ff, Gf.gm (y ^^^ pval M x) (Gf.inv (pval G x)) = ff := ⟨_, rfl⟩
          rw [hff] at hf ⊢
          have Hff := hid_of hff
          clear hff
          obtain rfl := Hmv.out
          have g2 := (hBr.block (w.heap.size + 1) hgs).trans Hg.out
          have hO2 := HOG.out.below hBr (Nat.le_refl _)
          have HO2 := hid_of hO2
          have Hg2 := hid_of g2
          have HBr := hid_of hBr
          have hrl := He2.out
          clear hO2 g2 hBr hrl
          go_wp2_with fail
          refine (addTimes_any (w.heap.size + 1) 0 xs.length _ (cellsB M).toArray (fun j => M[0 + j]?.getD 0) _ G _ w2 (by omega) (by omega) (HO2.out.ne (by omega)) (by omega) (by omega) Hg2.out (fun j hj => ⟨getD_lt He3.out _, by rw [List.getElem?_toArray, cellsB_get (by rw [He2.out]; omega)]⟩)).mono ?_
          rintro e w3 ⟨⟨v, rfl⟩, hA⟩
          rw [Int.toNat_natCast, upd_addAt] at hA
          have HA := hid_of hA
          clear hA
          go_wp2_with fail
          have hO3 := HO2.out.only HA.out (by omega)
          have hB23 : Below w.heap.size w w3 := (HB.out.trans (HBr.out.mono HB.out.size)).trans (HA.out.below (by omega))
          have hw3 : w.heap.size + 1 < w3.heap.size := (Array.getElem?_eq_some_iff.1 HA.out.at_).1
          have hl2 := bs_lit2 (w := w3) x hx2
          have hO3a := hO3.below ((Below.refl w3.heap.size w3).alloc (Nat.le_refl _) (.cells #[.int .u8 (x : Nat), .int .u8 1] 5)) (Nat.le_refl _)
          refine (product_any _ _ G [x, 1] _ hO3a.bs (hl2.mono (by simp)) (by simp; omega)).mono ?_
          rintro e w4 ⟨v4, rfl, hO4, hB4⟩
          have hm' : mst xs ys (k + 1) = some (addAt M 0 G ff, pm G [x, 1]) := by
            rw [mst, He1.out]
            simp only [Hx.out, Hy.out]
            rw [if_neg hv0, Hff.out]
          have hB3a : Below w.heap.size w (w3.alloc (.cells #[.int .u8 (x : Nat), .int .u8 1] 5)) := hB23.alloc hB23.size _
          have hlp := pm_len G x
          have HF : Hid (MeetI w xs ys (k + 1) v4 w4) := by
            refine ⟨_, _, hm', by rw [addAt_len]; exact He2.out, addAt_lt He3.out HOG.out.2.1 _ _, by omega, hO4.mono (by simp; omega), ?_, hB3a.trans (hB4.mono hB3a.size)⟩
            refine (hB4.block (w.heap.size + 1) (by simp; omega)).trans ?_
            rw [Below.heap_alloc _ _ _ hw3]
            exact HA.out.at_
          clear hO3 hB23 hw3 hl2 hO3a hm' hB3a hlp hO4 hB4
          go_wp2_with fail
          go_roundw
          case rel => exact ⟨k + 1, by omega, by go_num, HF⟩
          case measure => simp [intOf]; omega
    · have hk' : k = xs.length := by omega
      subst hk'
      obtain ⟨M, G, e1, e2, e3, e4, hO, hg, hB⟩ := HI.out
      have hgs : w.heap.size + 1 < wr.heap.size := (Array.getElem?_eq_some_iff.1 hg).1
      have hbM : Bs wr.heap.size wr (.slice (some ⟨w.heap.size + 1, 0, none⟩) xs.length xs.length) M := by
        refine ⟨e3, by omega, _, _, by rw [e2], by omega, by simp, .inr ⟨w.heap.size + 1, 0, rfl, hgs, fun j hj => ?_⟩⟩
        rw [Nat.zero_add]
        simp only [World.cell?, hg]
        rw [if_neg (by simp), List.getElem?_toArray, cellsB_get hj]
      have HbM := hid_of hbM
      have HB := hid_of hB
      have He1 := hid_of e1
      clear hbM e1 e2 e3 e4 hO hg hB
      go_wp2_with fail
      refine (trim_any _ M _ HbM.out).mono ?_
      rintro e w2 ⟨v, rfl, hO2, hB2⟩
      go_wp2_with fail
      go_ret2
      rw [He1.out]
      exact ⟨⟨_, rfl, hO2.mono HB.out.size⟩, HB.out.trans (hB2.mono HB.out.size)⟩
end Go.Proofs.Ytlccdceeppfleab
