/- What the statements' own words roomy, kept and scratch do, and what Divide answers beside: its two answers share no memory. -/
import Derived.Test.YtlccdceeppfleabZero
namespace Go.Proofs.Ytlccdceeppfleab
open Go.ChangeShapes Go.WideShapes Go.ChangeAt Go.RowKit Go.Shelf
/-- a list with a byte of 77 in the room behind it -/
def Rm (N : Nat) (w : World) (v : Value) (L : List Nat) : Prop :=
  ∃ g, v = .slice (some ⟨g, 0, none⟩) L.length (L.length + 1) ∧ g < N ∧ Bs N w v L ∧ w.cell? ⟨g, L.length, none⟩ = some (.int .u8 77)
theorem Rm.below {n : Nat} {w w' : World} {v : Value} {L : List Nat} (h : Rm n w v L) (hb : Below n w w') : Rm n w' v L := by
  obtain ⟨g, h1, h2, h3, h4⟩ := h
  exact ⟨g, h1, h2, h3.below hb, (hb.cell (p := ⟨g, L.length, none⟩) h2).trans h4⟩
theorem Rm.mono {n m : Nat} {w : World} {v : Value} {L : List Nat} (h : Rm n w v L) (hm : n ≤ m) : Rm m w v L := by
  obtain ⟨g, h1, h2, h3, h4⟩ := h
  exact ⟨g, h1, by omega, h3.mono hm, h4⟩
theorem Rm.bs {n : Nat} {w : World} {v : Value} {L : List Nat} (h : Rm n w v L) : Bs n w v L := by
  obtain ⟨g, h1, h2, h3, h4⟩ := h
  exact h3
theorem ownsAlloc {w : World} {base : Nat} {v : Value} {n : Nat} {xs : List Value} (h : w.ownsRow base 5 1 v n xs) (o : Obj) : (w.alloc o).ownsRow base 5 1 v n xs := by
  refine ⟨h.1, ?_⟩
  rcases h.2 with h4 | ⟨g', cap, cur, rfl, h5, h6, h7⟩
  · exact .inl h4
  · exact .inr ⟨g', cap, cur, rfl, h5, (((Below.refl w.heap.size w).alloc (Nat.le_refl _) o).block g' (Array.getElem?_eq_some_iff.1 h6).1).trans h6, h7⟩
theorem own_cell {w : World} {base g n cap : Nat} {xs : List Value} (h : w.ownsRow base 5 1 (.slice (some ⟨g, 0, none⟩) n cap) n xs) (j : Nat) (u : Value) (hj : xs[j]? = some u) : w.cell? ⟨g, j, none⟩ = some u := by
  rcases h.2 with ⟨h1, _⟩ | ⟨g', cap', cur, h1, h5, h6, h7, h8, h9, h10⟩
  · cases h1
  · injection h1 with h1 _ _
    injection h1 with h1
    injection h1 with h1 _
    subst h1
    rw [← h10] at hj
    have hlt := (List.getElem?_eq_some_iff.1 hj).1
    rw [List.length_take] at hlt
    rw [List.getElem?_take_of_lt (by omega), Array.getElem?_toList] at hj
    simp [World.cell?, h6, hj]
set_option maxRecDepth 100000 in
set_option maxHeartbeats 4000000 in
theorem roomy_any (v : Value) (L : List Nat) (w : World) (hI : Bs w.heap.size w v L) :
    Calls Try.prog 9 #[v] w fun e w' => ∃ v', e = .returned v' ∧ Rm w'.heap.size w' v' L ∧ Below w.heap.size w w' := by
  obtain ⟨a1, a2, ao, cap, rfl, a4, a5, a6⟩ := hI
  have A1 := hid_of a1
  obtain ⟨i0, hi, hz0, hz1, hz2⟩ := info_parts info5
  have HC : Hid (∀ ad, ao = some ad → ∀ j u, (cellsB L)[j]? = some u → w.cell? (ad.add j) = some u ∧ ad.block < w.heap.size) := by
    intro ad he j u hj
    have hj' : j < L.length := by have := (List.getElem?_eq_some_iff.1 hj).1; simpa [cellsB] using this
    rcases a6 with h | ⟨b, off, rfl, hb, hc⟩
    · rw [h] at hj'; simp at hj'
    · cases he
      rw [cellsB_get hj'] at hj
      rw [Addr.add_mid, hc j hj', hj]
      exact ⟨rfl, hb⟩
  have HN : Hid (ao = none → L.length = 0 ∧ cap = 0) := by
    intro h
    have := a5 h
    exact ⟨by omega, this⟩
  have s1 : IntKind.i64.wrap ((L.length : Int) + 1) = ((L.length + 1 : Nat) : Int) := by rw [IntKind.wrap_i64]; omega
  clear a6 a5 a1
  go_enter Try.func9, Try.ntmps9
  go_wp2_with (first
    | (at_make; refine wpList_make_own _ rfl _ _ 22 rfl w.heap.size 5 i0 (.int .u8 0) 1 und22 hi hz0 hz1 _ _ _ (L.length + 1) rfl rfl (by go_num) (by rw [hz2]; omega) (by unfold maxLen; omega) (Nat.le_refl _) ?_; intro w1 hown hgrow)
    | (at_builtin; refine wpList_append_fits_any _ rfl (.tmp 6) (.tmp 7) 22 rfl w.heap.size 5 i0 1 und22 hi hz1 w.heap.size 0 (L.length + 1) [] rfl hown ao L.length cap (cellsB L) rfl (by simp [cellsB]) HN.out (fun ad he j u hj => hgrow.cell (HC.out ad he j u hj).1 (fun e => by cases e)) (cellsB_one L) (by omega) ?_; intro w2 hown2 hgrow2; rw [Nat.zero_add, List.nil_append] at hown2; rw [Nat.zero_add])
    | (at_builtin; refine wpList_append_fits _ rfl (.tmp 8) (.tmp 9) 22 rfl w.heap.size 5 i0 1 und22 hi hz1 w.heap.size L.length (L.length + 1) (cellsB L) rfl (ownsAlloc hown2 _) ⟨w2.heap.size, 0, none⟩ 1 1 [.int .u8 77] rfl rfl (fun j u hj => by exact news_one w2 _ j u hj) (by simp [Value.oneCell']) (by omega) ?_; intro w3 hown3 hgrow3))
  go_ret
  have hB1 : Below w.heap.size w w1 := (Below.refl _ w).grown hgrow (Nat.le_refl _) (fun k e => by cases e)
  have hB2 : Below w.heap.size w w2 := hB1.grown hgrow2 hB1.size (fun k e => by cases e; exact Nat.le_refl _)
  have hBa : Below w.heap.size w (w2.alloc (.cells #[.int .u8 77] 5)) := hB2.alloc hB2.size _
  have hB3 : Below w.heap.size w w3 := hBa.grown hgrow3 hBa.size (fun k e => by cases e; exact Nat.le_refl _)
  have hlt : w.heap.size < w3.heap.size := (hown3.lt _ rfl).2
  have hcell := own_cell hown3
  refine ⟨_, rfl, ⟨w.heap.size, rfl, hlt, ⟨A1.out, a2, _, _, rfl, by omega, by simp, .inr ⟨w.heap.size, 0, rfl, hlt, fun j hj => ?_⟩⟩, ?_⟩, hB3⟩
  · rw [Nat.zero_add]
    refine hcell j _ ?_
    rw [List.getElem?_append_left (by simpa [cellsB] using hj), cellsB_get hj]
  · refine hcell L.length _ ?_
    rw [List.getElem?_append_right (by simp [cellsB])]
    simp [cellsB]
set_option maxRecDepth 100000 in
set_option maxHeartbeats 4000000 in
theorem kept_any (tv lv : Value) (L : List Nat) (w : World) (hT : Rm w.heap.size w tv L) (hL : Bs w.heap.size w lv L) :
    Calls Try.prog 14 #[tv, lv] w fun e w' => e = .returned (.bool true) ∧ Below w.heap.size w w' := by
  obtain ⟨g, rfl, hg, hb, h77⟩ := hT
  have HT := hid_of hb
  have HL := hid_of hL
  obtain ⟨a1, a2, ao, cap, rfl, a4, a5, a6⟩ := hL
  have H77 := hid_of h77
  obtain ⟨m, hm⟩ : ∃ m, L.length = m := ⟨_, rfl⟩
  rw [hm] at a2 a4 HT HL H77 ⊢
  have s1 : IntKind.i64.wrap ((m : Int) + 1) = ((m + 1 : Nat) : Int) := by rw [IntKind.wrap_i64]; omega
  have s2 : IntKind.i64.wrap (m : Int) = (m : Int) := by rw [IntKind.wrap_i64]; omega
  clear a1 a5 a6 hb h77 hm
  go_enter Try.func14, Try.ntmps14
  go_wp2_with fail
  refine (same_any _ _ L L _ _ HT.out HL.out).mono ?_
  rintro e w2 ⟨rfl, hB⟩
  rw [decide_eq_true rfl]
  have c77 := (hB.cell (p := ⟨g, m, none⟩) hg).trans H77.out
  have BB := hid_of hB
  clear hB
  go_wp2_with fail
  go_ret
  exact ⟨rfl, BB.out⟩
/-- nothing has turned but the block that v lies in, if it has any -/
def Sc (v : Value) (w w' : World) : Prop := w' = w ∨ ∃ g o, v.ownBlock = some g ∧ OnlyAt g o w w'
theorem Sc.below {base : Nat} {v : Value} {L : List Nat} {w0 w w' : World} (h : Sc v w w') (hO : Ow base w0 v L) : Below base w w' := by
  rcases h with rfl | ⟨g, o, hv, hA⟩
  · exact Below.refl _ _
  · exact hA.below (hO.block_le g hv)
theorem Sc.own {base hi : Nat} {v u : Value} {L : List Nat} {w w' : World} (h : Sc v w w') (hv : ∀ g, v.ownBlock = some g → g < hi) (hu : Ow base w u L) (hb : hi ≤ base) : Ow base w' u L := by
  rcases h with rfl | ⟨g, o, hg, hA⟩
  · exact hu
  · exact hu.only hA (by have := hv g hg; omega)
theorem Ow.lo {base lo : Nat} {v : Value} {L : List Nat} {w w' : World} (h : Ow base w v L) (hv : ∀ g, v.ownBlock = some g → g < lo) (hb : Below lo w w') : Ow base w' v L := by
  obtain ⟨h1, h2, h3⟩ := h
  refine ⟨⟨h1.1, ?_⟩, h2, h3⟩
  rcases h1.2 with h4 | ⟨g', cap, cur, rfl, h5, h6, h7⟩
  · exact .inl h4
  · exact .inr ⟨g', cap, cur, rfl, h5, (hb.block g' (hv g' rfl)).trans h6, h7⟩
theorem Sc.cell {hi : Nat} {v : Value} {w w' : World} (h : Sc v w w') (hv : ∀ g, v.ownBlock = some g → g < hi) {p : Addr} (hp : hi ≤ p.block) : w'.cell? p = w.cell? p := by
  rcases h with rfl | ⟨g, o, hg, hA⟩
  · rfl
  · exact hA.cell (by have := hv g hg; omega)
theorem Sc.size {v : Value} {w w' : World} (h : Sc v w w') : w'.heap.size = w.heap.size := by
  rcases h with rfl | ⟨g, o, hg, hA⟩
  · rfl
  · exact hA.size
theorem Ow.hi {base : Nat} {w : World} {v : Value} {L : List Nat} (h : Ow base w v L) : ∀ g, v.ownBlock = some g → g < w.heap.size := fun g hg => (h.1.lt g hg).2
set_option maxRecDepth 100000 in
set_option maxHeartbeats 4000000 in
theorem scratch_any (v : Value) (L : List Nat) (base : Nat) (w : World) (h : Ow base w v L) :
    Calls Try.prog 12 #[v] w fun e w' => (∃ u, e = .returned u) ∧ Sc v w w' := by
  rcases h.1.2 with ⟨rfl, h4⟩ | ⟨g, cap, cur, rfl, h5, h6, h7, h8, h9, h10⟩
  · clear h
    go_enter Try.func12, Try.ntmps12
    go_wp2_with fail
    go_loopw [2] (fun i w' => i = .int .i64 0 ∧ w' = w) (fun _ _ => 0)
    case atStart => exact ⟨rfl, rfl⟩
    case round =>
      obtain ⟨rfl, rfl⟩ := hrel
      go_wp2_with fail
      go_end0
      exact ⟨⟨_, rfl⟩, .inl rfl⟩
  · have hl := h.2.2
    have HW := hid_of h6
    have hsz : L.length ≤ cur.size := by omega
    have HC : Hid (∀ j, j < L.length → (cur[j]?).isSome) := by
      intro j hj
      simp; omega
    clear h h6 h10 h9
    obtain ⟨n, hn⟩ : ∃ n, L.length = n := ⟨_, rfl⟩
    rw [hn] at hl HC h7 ⊢
    clear hn hsz
    go_enter Try.func12, Try.ntmps12
    go_wp2_with fail
    go_loopw [2] (fun i w' => ∃ k : Nat, k ≤ n ∧ i = .int .i64 k ∧ Hid (OnlyAt g (.cells (upd cur 0 (fun _ => 99) k) 5 (0, 0)) w w')) (fun i _ => n - (intOf i).toNat)
    case atStart => exact ⟨0, by omega, rfl, OnlyAt.refl HW.out⟩
    case round =>
      obtain ⟨k, hk, rfl, H⟩ := hrel
      by_cases hlt : k < n
      · have h2 := H.out.read k
        rw [upd_get, if_neg (by omega)] at h2
        obtain ⟨u, hu⟩ := Option.isSome_iff_exists.1 (HC.out k hlt)
        rw [hu] at h2
        have h3 := H.out.frozen k
        clear hu
        go_wp2_with fail
        go_roundw
        case rel =>
          refine ⟨k + 1, by omega, by go_num, ?_⟩
          show OnlyAt g (.cells ((upd cur 0 (fun _ => 99) k).setIfInBounds (0 + k) (.int .u8 ((99 : Nat) : Int))) 5 (0, 0)) w _
          rw [Nat.zero_add]
          exact H.out.set _
        case measure => simp [intOf]; omega
      · have hk' : k = n := by omega
        subst hk'
        go_wp2_with fail
        go_end0
        exact ⟨⟨_, rfl⟩, .inr ⟨g, _, rfl, H.out⟩⟩
set_option maxRecDepth 100000 in
set_option maxHeartbeats 2000000 in
theorem div_two (pv qv : Value) (P Q : List Nat) (w : World) (hP : Bs w.heap.size w pv P) (hQ : Bs w.heap.size w qv Q) (hl : P.length ≤ 64) (hm : Q.length ≤ 64) (h0 : trim Q ≠ []) :
    Calls Try.prog 8 #[pv, qv] w fun e w' => ∃ v r s, e = .returned (.tuple #[v, r, .int .i64 0]) ∧ Ow w.heap.size w' v (pdq P Q) ∧ (∀ g, v.ownBlock = some g → g < s) ∧ Ow s w' r (pdr P Q) ∧ w.heap.size ≤ s ∧ s ≤ w'.heap.size ∧ Below w.heap.size w w' := by
  have HP : Hid (Bs w.heap.size w pv P) := hP
  have HQ : Hid (Bs w.heap.size w qv Q) := hQ
  obtain ⟨_, p2, ao, cap, rfl, _⟩ := hP
  obtain ⟨_, q2, bo, cbp, rfl, _⟩ := hQ
  have HE : Hid (longs [P.length, Q.length] = false) := by show longs _ = false; rw [longs_two, decide_eq_false (by omega), decide_eq_false (by omega)]; rfl
  have htl := trim_len Q
  have ht0 : 0 < (trim Q).length := by cases h : trim Q with | nil => exact absurd h h0 | cons a r => simp
  have HT : Hid ((trim Q)[(trim Q).length - 1]?.getD 0 ≠ 0) := trim_last ht0
  have hz : (((trim Q).length : Int) == 0) = false := by rw [beq_eq_false_iff_ne]; omega
  clear h0
  go_enter Try.func8, Try.ntmps8
  go_wp2_with fail
  refine (check_any w.heap.size 2 2 [P.length, Q.length] _ rfl (by omega) (by simp; omega) (two_cells _ _ ao bo _ _ cap cbp (by simp [go_sem]) (by simp [go_sem]))).mono ?_
  rintro e w1 ⟨rfl, rfl⟩
  rw [HE.out]
  have hB1 : Below w.heap.size w (w.alloc (.cells #[.slice ao P.length cap, .slice bo Q.length cbp] 22)) := (Below.refl _ _).alloc (Nat.le_refl _) _
  have HP1 : Hid (Bs w.heap.size (w.alloc (.cells #[.slice ao P.length cap, .slice bo Q.length cbp] 22)) (.slice ao P.length cap) P) := HP.out.below hB1
  go_wp2_with fail
  refine (trim_any _ Q _ ((HQ.out.below hB1).mono (by simp))).mono ?_
  rintro e w2 ⟨v, rfl, hO, hB2⟩
  obtain ⟨ao', cap', hv⟩ := hO.shape
  subst hv
  have hB12 : Below w.heap.size w w2 := hB1.trans (hB2.mono (by simp))
  go_wp2_with fail
  refine (dividep_any _ _ P (trim Q) _ ((HP.out.below hB12).mono hB12.size) hO.bs (by omega) (by omega) ht0 HT.out).mono ?_
  rintro e w3 ⟨vq, vr, rfl, hbq, hbr, hB3⟩
  have hB13 : Below w.heap.size w w3 := hB12.trans (hB3.mono hB12.size)
  go_wp2_with fail
  refine (trim_any _ _ _ hbq).mono ?_
  rintro e w4 ⟨v4, rfl, hO4, hB4⟩
  have hB14 : Below w.heap.size w w4 := hB13.trans (hB4.mono hB13.size)
  go_wp2_with fail
  refine (trim_any _ _ _ ((hbr.below hB4).mono hB4.size)).mono ?_
  rintro e w5 ⟨v5, rfl, hO5, hB5⟩
  go_wp2_with fail
  go_ret3
  exact ⟨_, _, _, rfl, (hO4.below hB5 (Nat.le_refl _)).mono hB13.size, hO4.hi, hO5, hB14.size, hB5.size, hB14.trans (hB5.mono hB14.size)⟩
/-- what Divide answers, told whole -/
def der (P Q : List Nat) : Nat := if 64 < P.length ∨ 64 < Q.length then 2 else if trim Q = [] then 5 else 0
def dq (P Q : List Nat) : List Nat := if 64 < P.length ∨ 64 < Q.length then [] else if trim Q = [] then [] else pdq P Q
def dr (P Q : List Nat) : List Nat := if 64 < P.length ∨ 64 < Q.length then [] else if trim Q = [] then [] else pdr P Q
theorem Ow.nil (base : Nat) (w : World) : Ow base w (.slice none 0 0) [] := ⟨World.ownsRow_nil _ _ _ _, by simp, by simp⟩
theorem div_all (pv qv : Value) (P Q : List Nat) (w : World) (hP : Bs w.heap.size w pv P) (hQ : Bs w.heap.size w qv Q) (er : Nat) (her : der P Q = er) :
    Calls Try.prog 8 #[pv, qv] w fun e w' => ∃ v r s, e = .returned (.tuple #[v, r, .int .i64 (er : Nat)]) ∧ Ow w.heap.size w' v (dq P Q) ∧ (∀ g, v.ownBlock = some g → g < s) ∧ Ow s w' r (dr P Q) ∧ w.heap.size ≤ s ∧ s ≤ w'.heap.size ∧ Below w.heap.size w w' := by
  unfold dq dr
  unfold der at her
  subst her
  by_cases h : 64 < P.length ∨ 64 < Q.length
  · rw [if_pos h, if_pos h, if_pos h]
    exact (div_long pv qv P Q w hP hQ h).mono fun e w' ⟨h1, h2⟩ => ⟨_, _, _, h1, Ow.nil _ _, (fun g hg => by cases hg), Ow.nil w.heap.size _, Nat.le_refl _, h2.size, h2⟩
  · rw [if_neg h, if_neg h, if_neg h]
    by_cases t : trim Q = []
    · rw [if_pos t, if_pos t, if_pos t]
      exact (div_none pv qv P Q w hP hQ (by omega) (by omega) t).mono fun e w' ⟨h1, h2⟩ => ⟨_, _, _, h1, Ow.nil _ _, (fun g hg => by cases hg), Ow.nil w.heap.size _, Nat.le_refl _, h2.size, h2⟩
    · rw [if_neg t, if_neg t, if_neg t]
      exact div_two pv qv P Q w hP hQ (by omega) (by omega) t
/-- Mul and Meet make new lists, whatever they answer -/
theorem mul_fresh (pv qv : Value) (P Q : List Nat) (w : World) (hP : Bs w.heap.size w pv P) (hQ : Bs w.heap.size w qv Q) :
    Calls Try.prog 10 #[pv, qv] w fun e w' => (∃ v er L, e = .returned (.tuple #[v, .int .i64 er]) ∧ Ow w.heap.size w' v L) ∧ Below w.heap.size w w' := by
  by_cases h : 64 < P.length ∨ 64 < Q.length
  · exact (mul_long pv qv P Q w hP hQ h).mono fun e w' ⟨h1, h2⟩ => ⟨⟨_, _, _, h1, Ow.nil _ _⟩, h2⟩
  · exact (mulp_any pv qv P Q w hP hQ (by omega) (by omega)).mono fun e w' ⟨v, h1, h2, h3⟩ => ⟨⟨v, _, _, h1, h2⟩, h3⟩
theorem meet_fresh (pv qv : Value) (P Q : List Nat) (w : World) (hP : Bs w.heap.size w pv P) (hQ : Bs w.heap.size w qv Q) :
    Calls Try.prog 11 #[pv, qv] w fun e w' => (∃ v er L, e = .returned (.tuple #[v, .int .i64 er]) ∧ Ow w.heap.size w' v L) ∧ Below w.heap.size w w' := by
  by_cases h : 64 < P.length
  · exact (meet_long pv qv P Q w hP hQ h).mono fun e w' ⟨h1, h2⟩ => ⟨⟨_, _, _, h1, Ow.nil _ _⟩, h2⟩
  · by_cases t : P.length ≠ Q.length
    · exact (meet_form pv qv P Q w hP hQ (by omega) t).mono fun e w' ⟨h1, h2⟩ => ⟨⟨_, _, _, h1, Ow.nil _ _⟩, h2⟩
    · refine (meet_any pv qv P Q w hP hQ (by omega) (by omega)).mono fun e w' ⟨h1, h2⟩ => ⟨?_, h2⟩
      cases hs : mst P Q P.length with
      | none => rw [hs] at h1; exact ⟨_, _, _, h1, Ow.nil _ _⟩
      | some s => rw [hs] at h1; obtain ⟨v, h1, h3⟩ := h1; exact ⟨_, _, _, h1, h3⟩
end Go.Proofs.Ytlccdceeppfleab
