/- What poly.divide makes of two lists, the second one's last factor not being 0: quotient and rest, step by step from the last place on. -/
import Derived.Test.YtlccdceeppfleabDivB
namespace Go.Proofs.Ytlccdceeppfleab
open Go.ChangeShapes Go.WideShapes Go.ChangeAt Go.RowKit Go.Shelf
attribute [local go_sem] Oper.semAt_some
set_option maxRecDepth 100000 in
set_option maxHeartbeats 2000000 in
theorem divide_in (ao bo : Option Addr) (cap cbp : Nat) (P By : List Nat) (w : World) (hP : Bs w.heap.size w (.slice ao P.length cap) P) (hQ : Bs w.heap.size w (.slice bo By.length cbp) By) (hl : P.length ≤ 1000) (hm : By.length ≤ 1000) (hb : 0 < By.length) (hbl : By[By.length - 1]?.getD 0 ≠ 0) :
    CallsIn Fence.wide 5 Try.prog 19 #[.slice ao P.length cap, .slice bo By.length cbp] w fun e W' => ∃ vq vr, e = .returned (.tuple #[vq, vr]) ∧ Bs W'.heap.size W' vq (dfin P By (Gf.inv (By[By.length - 1]?.getD 0))).1 ∧ Bs W'.heap.size W' vr (dfin P By (Gf.inv (By[By.length - 1]?.getD 0))).2 ∧ Below w.heap.size w W' := by
  refine callsIn_of_wp_marks Try.func19 rfl trivial ?_ rfl
  simp only [Try.ntmps19, List.size_toArray, List.length_cons, List.length_nil, Nat.reduceAdd, Nat.reduceSub, Array.replicate_succ, Array.replicate_zero, List.push_toArray, List.append_toArray, List.nil_append, List.cons_append]
  refine wpIn_wide.2 ?_
  have HP : Hid (Bs w.heap.size w (.slice ao P.length cap) P) := hP
  have HQ : Hid (Bs w.heap.size w (.slice bo By.length cbp) By) := hQ
  clear hP hQ
  have hmk := mk22 P.length hl
  go_wp2_with fail
  rename_i K hK
  have hrest : ∀ (gq : Nat) (ar : Option Addr) (cr : Nat) (Wc : World), DivF w Wc (.slice bo By.length cbp) gq ar cr P →
      K { tmps := #[.slice ao P.length cap, .slice bo By.length cbp, undef, .pointer (some ⟨w.heap.size, 0, none⟩), .pointer (some ⟨w.heap.size + 1, 0, none⟩), .pointer (some ⟨w.heap.size + 1 + 1, 0, none⟩), undef, undef, undef, undef, undef,
        .slice ao P.length cap, .int .i64 P.length, .slice (some ⟨gq, 0, none⟩) P.length P.length, .slice ao P.length cap, .slice ar P.length cr, undef, undef, undef, undef, undef, undef, undef, undef, undef, undef, undef, undef, undef, undef, undef, undef, undef, undef, undef, undef, undef, undef, undef, undef, undef, undef, undef, undef, undef, undef, undef, undef, undef, undef, undef, undef, undef, undef, undef, undef], defers := [] } Wc := by
    intro gq ar cr Wc HF
    have HF' : Hid (DivF w Wc (.slice bo By.length cbp) gq ar cr P) := HF
    clear hmk
    have c0 := HF.by_
    have c1 := HF.hq
    have c2 := HF.hr
    have hsz := HF.size
    have hw0 : w.heap.size < Wc.heap.size := by omega
    have hw1 : w.heap.size + 1 < Wc.heap.size := by omega
    clear HF
    obtain ⟨q1, q2, bo', cbp', q3, q4, q5, q6⟩ := HQ.out
    injection q3 with q3 _ q7
    subst q3 q7
    rcases q6 with rfl | ⟨b, off, rfl, q8, q9⟩
    · simp at hb
    have hbt := (HF'.out.below.cell (p := ⟨b, off + (By.length - 1), none⟩) q8).trans (q9 (By.length - 1) (by omega))
    obtain ⟨lt, hlt⟩ : ∃ lt, By[By.length - 1]?.getD 0 = lt := ⟨_, rfl⟩
    have hlt2 : lt < 256 := by rw [← hlt]; exact getD_lt q1 _
    rw [hlt] at hbt hbl
    have HLT : Hid (By[By.length - 1]?.getD 0 = lt) := hlt
    have Hq1 : Hid (∀ x ∈ By, x < 256) := q1
    have Hq9 : Hid (∀ j, j < By.length → w.cell? ⟨b, off + j, none⟩ = some (.int .u8 (By[j]?.getD 0 : Nat))) := q9
    clear hlt q1 q9
    have hbW := cell_lt hbt
    apply hK
    go_wp2_with (first
      | (go_at_call 26; refine (inverse_any _ _ (by omega) (by omega)).mono ?_; rintro e w3 ⟨rfl, hB3⟩; rw [Int.toNat_natCast]; have d2 := (hB3.cell (p := ⟨w.heap.size + 1 + 1, 0, none⟩) (by simp; omega)).trans (by simp [go_sem, c2, hsz] : _ = some (Value.slice ar P.length cr)); have d3 : w.heap.size + 1 + 1 < w3.heap.size := (by have := hB3.size; simp at this; omega))
      | (go_at_call 15; refine (callsIn_wide.1 (back_in 5 _ _ _ _)).mono ?_; rintro e w4 ⟨rfl, rfl⟩))
    have hBc := HF'.out.below
    have hB4 : Below Wc.heap.size Wc ((w3.alloc (.cells #[.int .u8 (Gf.inv lt)] 5)).alloc (.cells #[.slice ar P.length cr] 22)) := by
      have e1 : Below Wc.heap.size Wc (Wc.alloc (.cells #[.int .i64 ((By.length : Int) - 1)] 3)) := (Below.refl _ _).alloc (Nat.le_refl _) _
      have e2 : Below Wc.heap.size Wc w3 := e1.trans (hB3.mono (by simp))
      exact (e2.alloc e2.size _).alloc (Nat.le_trans e2.size (by simp)) _
    refine (wpIn_wide (n := 5)).1 ?_
    have tW : Wc.heap.size < w3.heap.size := by have := hB3.size; simp at this; omega
    have c0X : ((w3.alloc (.cells #[.int .u8 (Gf.inv lt)] 5)).alloc (.cells #[.slice ar P.length cr] 22)).cell? ⟨Wc.heap.size, 0, none⟩ = some (.int .i64 ((By.length : Int) - 1)) := by
      have e1 := hB3.cell (p := ⟨Wc.heap.size, 0, none⟩) (by simp)
      refine cell_new _ (cell_new _ (e1.trans ?_))
      simp [go_sem]
    have bV := Boxed.new w3 5 (.int .u8 (Gf.inv lt))
    have bN := Boxed.new (w3.alloc (.cells #[.int .u8 (Gf.inv lt)] 5)) 22 (.slice ar P.length cr)
    simp only [World.size_alloc] at bN
    have bV' := (bV.alloc (.cells #[.slice ar P.length cr] 22)).cell
    have bN' := bN.cell
    have hXs : w3.heap.size + 1 < ((w3.alloc (.cells #[.int .u8 (Gf.inv lt)] 5)).alloc (.cells #[.slice ar P.length cr] 22)).heap.size := by simp
    generalize hX : (w3.alloc (.cells #[.int .u8 (Gf.inv lt)] 5)).alloc (.cells #[.slice ar P.length cr] 22) = X at *
    clear hX bV bN
    have iv256 := Gf.inv_lt lt
    have i0 : DivI w (.slice (some ⟨b, off, none⟩) By.length cbp) gq ar cr P.length Wc.heap.size w3.heap.size ((By.length : Int) - 1) (Gf.inv lt) (St P By (Gf.inv lt) ([] : List (PB P.length LtB))) X := by
      have hF := HF'.out
      refine ⟨(hB4.cell (p := ⟨w.heap.size, 0, none⟩) hw0).trans hF.by_, (hB4.cell (p := ⟨w.heap.size + 1, 0, none⟩) hw1).trans hF.hq, (hB4.frozen (p := ⟨w.heap.size + 1, 0, none⟩) hw1).trans hF.fq,
        (hB4.cell (p := ⟨w.heap.size + 1 + 1, 0, none⟩) hsz).trans hF.hr, (hB4.frozen (p := ⟨w.heap.size + 1 + 1, 0, none⟩) hsz).trans hF.fr, c0X, bV', (hB4.block gq (Array.getElem?_eq_some_iff.1 hF.quo).1).trans hF.quo, ?_⟩
      rcases hF.rest with h | ⟨gr, cur, e1, e2, e3, e4, e5⟩
      · left; rw [h]; rfl
      · exact .inr ⟨gr, cur, e1, (hB4.block gr (Array.getElem?_eq_some_iff.1 e4).1).trans e4, e5⟩
    have hBX : Below w.heap.size w X := hBc.trans (hB4.mono hBc.size)
    have hgr : ∀ gr, ar = some ⟨gr, 0, none⟩ → P ≠ [] → w.heap.size + 1 + 1 < gr ∧ gr ≠ gq ∧ gr < Wc.heap.size := by
      intro gr e hne
      rcases HF'.out.rest with h | ⟨gr', cur, e1, e2, e3, e4, e5⟩
      · exact absurd h hne
      · rw [e1] at e; injection e with e; injection e with e; subst e
        exact ⟨e2, e3, (Array.getElem?_eq_some_iff.1 e4).1⟩
    rename_i KF hKF
    have hfin : ∀ (D : Nat) (W : World) (s : List Nat × List Nat), DivI w (.slice (some ⟨b, off, none⟩) By.length cbp) gq ar cr P.length Wc.heap.size w3.heap.size ((By.length : Int) - 1) (Gf.inv lt) s W → s = dfin P By (Gf.inv lt) → Below w.heap.size w W → X.heap.size ≤ D → W.heap[D]? = some (.deferred (some [])) →
        KF { tmps := #[(.slice ao P.length cap), (.slice (some ⟨b, off, none⟩) By.length cbp), undef, (.pointer (some ⟨w.heap.size, 0, none⟩)), (.pointer (some ⟨w.heap.size + 1, 0, none⟩)), (.pointer (some ⟨w.heap.size + 1 + 1, 0, none⟩)), (.pointer (some ⟨Wc.heap.size, 0, none⟩)), (.pointer (some ⟨w3.heap.size, 0, none⟩)), (.int .i64 0), undef, undef, (.slice ao P.length cap), (.int .i64 P.length), (.slice (some ⟨gq, 0, none⟩) P.length P.length), (.slice ao P.length cap), (.slice ar P.length cr), (.slice (some ⟨b, off, none⟩) By.length cbp), (.int .i64 By.length), (.int .i64 ((By.length : Int) - 1)), (.tuple #[.int .u8 (Gf.inv lt), .int .i64 0]), (.slice (some ⟨b, off, none⟩) By.length cbp), (.int .i64 ((By.length : Int) - 1)), (.pointer (some ⟨b, off + (By.length - 1), none⟩)), (.int .u8 lt), (.tuple #[.int .u8 (Gf.inv lt), .int .i64 0]), (.int .u8 (Gf.inv lt)), (.int .i64 0), (.slice ar P.length cr), (.func (.func 23) #[] #[.pointer (some ⟨w3.heap.size + 1, 0, none⟩)]), undef, undef, undef, undef, undef, undef, undef, undef, undef, undef, undef, undef, undef, undef, undef, undef, undef, undef, undef, undef, undef, undef, undef, undef, undef, undef, undef], defers := [{ target := .collected D, args := #[] }] } W := by
      intro D W s hD hs hB hD' hKd
      have HSs : Hid (s = dfin P By (Gf.inv lt)) := hs
      clear hs
      apply hKF
      have e2 := hD.hq
      have e3 := hD.hr
      have f2 := hD.fq
      have f3 := hD.fr
      have HD : Hid (DivI w (.slice (some ⟨b, off, none⟩) By.length cbp) gq ar cr P.length Wc.heap.size w3.heap.size ((By.length : Int) - 1) (Gf.inv lt) s W) := hD
      have HKd : Hid (W.heap[D]? = some (.deferred (some []))) := hKd
      clear hD hKd
      go_wp2_with fail
      rename_i K3 hK3
      refine Code.wp_mono (Q := Exit.then K3 (fun _ _ _ => False)) ?_ ?_
      · intro e a w h
        cases e <;> first | exact h | exact h.elim
      have hlast : ∀ t : Array Value, t.getD 4 undef = .pointer (some ⟨w.heap.size + 1, 0, none⟩) → t.getD 5 undef = .pointer (some ⟨w.heap.size + 1 + 1, 0, none⟩) →
          K3 { tmps := t, defers := [{ target := .collected D, args := #[] }] } ((W.setCell ⟨w.heap.size + 1, 0, none⟩ (.slice (some ⟨gq, 0, none⟩) P.length P.length)).setCell ⟨w.heap.size + 1 + 1, 0, none⟩ (.slice ar P.length cr)).drew := by
        intro t t4 t5
        apply hK3
        refine wp_ret ?_
        rw [setCell_self e2, setCell_self e3]
        have kd : W.drew.heap[D]? = some (.deferred (some [])) := HKd.out
        refine ⟨by simp, .inl ⟨_, _, rfl, run_takeDeferred kd, ?_⟩⟩
        have hown : DivI w (.slice (some ⟨b, off, none⟩) By.length cbp) gq ar cr P.length Wc.heap.size w3.heap.size ((By.length : Int) - 1) (Gf.inv lt) s (W.drew.putObj D (.deferred none)) :=
          DivI.own _ _ _ _ _ _ _ _ _ _ HD.out.drew (grownBy_putObj' _ D (.deferred none)) (fun r e => by cases e; exact ⟨_, kd, rfl⟩)
        have hBe : Below w.heap.size w (W.drew.putObj D (.deferred none)) := hB.drew.trans (belowK_b (w := X) hBX.size W.drew D _ _ hD' kd rfl rfl)
        obtain ⟨o1, o2, o3, o4⟩ := dfin_ok (iv := Gf.inv lt) HP.out.1 Hq1.out
        have hsd := HSs.out
        have hq1 := hown.hq
        have hr1 := hown.hr
        refine ⟨.tuple #[.slice (some ⟨gq, 0, none⟩) P.length P.length, .slice ar P.length cr], ?_, _, _, rfl, ?_, ?_, hBe⟩
        · have t4' := t4
          have t5' := t5
          rw [Array.getD_eq_getD_getElem?] at t4' t5'
          simp [results, Try.results19, go_sem, t4', t5', hq1, hr1]
        · rw [HLT.out, ← hsd]; exact hown.bq (by rw [hsd]; exact o1) (by rw [hsd]; exact o3) hl
        · rw [HLT.out, ← hsd]; exact hown.br (by rw [hsd]; exact o2) (by rw [hsd]; exact o4) hl HF'.out.cap_
      have HL := hid_of hlast
      clear hlast hK3
      go_region
      all_goals exact HL.out _ rfl rfl
    have HFin := hid_of hfin
    clear hfin
    refine wpIn_rangeFunc_ownG rfl (by decide) (gf := 23) (lb := #[.pointer (some ⟨w3.heap.size + 1, 0, none⟩)]) rfl trivial (enters_of Try.func23 (by kernel_rfl) rfl)
      (back_stopsD 4 (by decide) (w3.heap.size + 1) ar P.length cr (by omega) X hXs bN' ?hseq) KpD.trans (KpD.put hXs ?hgX) (Below.refl _ _) (fun _ => rfl)
      (DivInv w (.slice (some ⟨b, off, none⟩) By.length cbp) gq ar cr P By Wc.heap.size w3.heap.size (Gf.inv lt))
      (DivOut w (.slice (some ⟨b, off, none⟩) By.length cbp) gq ar cr P By Wc.heap.size w3.heap.size (Gf.inv lt))
      (DivInv.own _ _ _ _ _ _ _ _ _ _ hBX.size)
      (DivOut.own _ _ _ _ _ _ _ _ _ _ hBX.size)
      ⟨⟨by simp, i0⟩, hBX⟩
      (fun p => { tmps := #[.slice ao P.length cap, .slice (some ⟨b, off, none⟩) By.length cbp, undef, .pointer (some ⟨w.heap.size, 0, none⟩), .pointer (some ⟨w.heap.size + 1, 0, none⟩), .pointer (some ⟨w.heap.size + 1 + 1, 0, none⟩), .pointer (some ⟨Wc.heap.size, 0, none⟩), .pointer (some ⟨w3.heap.size, 0, none⟩), .int .i64 0, .int .i64 (p.1.1 : Nat), undef, .slice ao P.length cap, .int .i64 P.length, .slice (some ⟨gq, 0, none⟩) P.length P.length, .slice ao P.length cap, .slice ar P.length cr, .slice (some ⟨b, off, none⟩) By.length cbp, .int .i64 By.length, .int .i64 ((By.length : Int) - 1), .tuple #[.int .u8 (Gf.inv lt), .int .i64 0], .slice (some ⟨b, off, none⟩) By.length cbp, .int .i64 ((By.length : Int) - 1), .pointer (some ⟨b, off + (By.length - 1), none⟩), .int .u8 lt, .tuple #[.int .u8 (Gf.inv lt), .int .i64 0], .int .u8 (Gf.inv lt), .int .i64 0, .slice ar P.length cr, .func (.func 23) #[] #[.pointer (some ⟨w3.heap.size + 1, 0, none⟩)], .int .i64 (p.1.1 : Nat), .int .u8 (p.1.2 : Nat), undef, undef, undef, undef, undef, undef, undef, undef, undef, undef, undef, undef, undef, undef, undef, undef, undef, undef, undef, undef, undef, undef, undef, undef, undef], defers := [] }) ?assign ?body ?done ?stop
    case hseq =>
      rcases i0.rest with h | ⟨gr, cur, e1, e2, e3⟩
      · exact .inl h
      · refine .inr ⟨gr, e1, (Array.getElem?_eq_some_iff.1 e2).1, fun j hj => ⟨P[j]?.getD 0, getD_lt HP.out.1 j, ?_⟩⟩
        rw [Nat.zero_add]
        simp [World.cell?, e2, e3 j hj, St]
    case hgX => exact fun gr e => Nat.lt_of_lt_of_le (HF'.out.arlt gr e) hB4.size
    case assign =>
      intro l p W K hK
      gi_wp2
      exact hK
    case body =>
      rintro l pre p W ⟨⟨hp, hD⟩, hB⟩ _
      have hpl := p.2.1
      have e0 := hD.tp
      by_cases hbr : p.1.1 < By.length - 1
      · have HDD : Hid (DivI w (.slice (some ⟨b, off, none⟩) By.length cbp) gq ar cr P.length Wc.heap.size w3.heap.size ((By.length : Int) - 1) (Gf.inv lt) (St P By (Gf.inv lt) pre) W) := hD
        clear hD
        gi_wp2
        refine ⟨KeepsFrom.refl _ _, ?_⟩
        show _ ∧ _
        exact ⟨⟨rfl, pre, p, rfl, hp, hbr, HDD⟩, hB⟩
      · obtain ⟨s1, s2, s3, s4⟩ := St_ok (iv := Gf.inv lt) HP.out.1 Hq1.out pre
        have e1 := hD.vl
        have e2 := hD.hq
        have e3 := hD.hr
        have e4 := hD.by_
        rcases hD.rest with h | ⟨gr, cur, rfl, e5, e6⟩
        · omega
        have hne : P ≠ [] := by intro c; have : P.length = 0 := (by rw [c]; rfl); omega
        obtain ⟨g1, g2, g3⟩ := hgr gr rfl hne
        have e7 : W.cell? ⟨gr, p.1.1, none⟩ = some (.int .u8 ((St P By (Gf.inv lt) pre).2[p.1.1]?.getD 0 : Nat)) := by simp [World.cell?, e5, e6 _ hpl]
        obtain ⟨ri, hri⟩ : ∃ ri, (St P By (Gf.inv lt) pre).2[p.1.1]?.getD 0 = ri := ⟨_, rfl⟩
        have hri2 : ri < 256 := by rw [← hri]; exact getD_lt s4 _
        rw [hri] at e7
        have HRI : Hid ((St P By (Gf.inv lt) pre).2[p.1.1]?.getD 0 = ri) := hri
        have hf : Gf.gm ri (Gf.inv lt) < 256 := Gf.gm_lt hri2
        have HDD : Hid (DivI w (.slice (some ⟨b, off, none⟩) By.length cbp) gq (some ⟨gr, 0, none⟩) cr P.length Wc.heap.size w3.heap.size ((By.length : Int) - 1) (Gf.inv lt) (St P By (Gf.inv lt) pre) W) := hD
        have H6 : Hid (∀ j, j < P.length → cur[j]? = some (.int .u8 ((St P By (Gf.inv lt) pre).2[j]?.getD 0 : Nat))) := e6
        have HS1 : Hid ((St P By (Gf.inv lt) pre).1.length = P.length) := s1
        have HS2 : Hid ((St P By (Gf.inv lt) pre).2.length = P.length) := s2
        have HS4 : Hid (∀ x ∈ (St P By (Gf.inv lt) pre).2, x < 256) := s4
        have HR5 : Hid (W.heap[gr]? = some (.cells cur 5 (0, 0))) := e5
        clear hri e6 s1 s2 s3 s4 hD e5
        gi_wp2_with fail
        rename_i K2 hK2
        have fn1 : (Fence.wide.inRound l).fn 21 := trivial
        have fn2 : Fence.wide.fn 17 := trivial
        have fn3 : Fence.wide.fn 22 := trivial
        have hmx : Try.prog.follows Departure.mixedOrders = true := by kernel_rfl
        have hmid : K2 { tmps := #[(.slice ao P.length cap), (.slice (some ⟨b, off, none⟩) By.length cbp), undef, (.pointer (some ⟨w.heap.size, 0, none⟩)), (.pointer (some ⟨w.heap.size + 1, 0, none⟩)), (.pointer (some ⟨w.heap.size + 1 + 1, 0, none⟩)), (.pointer (some ⟨Wc.heap.size, 0, none⟩)), (.pointer (some ⟨w3.heap.size, 0, none⟩)), (.int .i64 0), (.int .i64 (p.1.1 : Nat)), (.int .u8 (Gf.gm ri (Gf.inv lt))), (.slice ao P.length cap), (.int .i64 P.length), (.slice (some ⟨gq, 0, none⟩) P.length P.length), (.slice ao P.length cap), (.slice (some ⟨gr, 0, none⟩) P.length cr), (.slice (some ⟨b, off, none⟩) By.length cbp), (.int .i64 By.length), (.int .i64 ((By.length : Int) - 1)), (.tuple #[.int .u8 (Gf.inv lt), .int .i64 0]), (.slice (some ⟨b, off, none⟩) By.length cbp), (.int .i64 ((By.length : Int) - 1)), (.pointer (some ⟨b, off + (By.length - 1), none⟩)), (.int .u8 lt), (.tuple #[.int .u8 (Gf.inv lt), .int .i64 0]), (.int .u8 (Gf.inv lt)), (.int .i64 0), (.slice (some ⟨gr, 0, none⟩) P.length cr), (.func (.func 23) #[] #[.pointer (some ⟨w3.heap.size + 1, 0, none⟩)]), (.int .i64 (p.1.1 : Nat)), (.int .u8 (p.1.2 : Nat)), (.int .i64 (p.1.1 : Nat)), (.int .i64 ((By.length : Int) - 1)), (.bool (decide (((p.1.1 : Nat) : Int) < (By.length : Int) - 1))), (.slice (some ⟨gr, 0, none⟩) P.length cr), (.int .i64 (p.1.1 : Nat)), (.pointer (some ⟨gr, p.1.1, none⟩)), (.int .u8 ri), (.int .u8 (Gf.inv lt)), (.int .u8 (Gf.gm ri (Gf.inv lt))), undef, undef, undef, undef, undef, undef, undef, undef, undef, undef, undef, undef, undef, undef, undef, undef], defers := [] } W.drew := by
          apply hK2
          have q0 := HDD.out.quo
          obtain ⟨k, hk⟩ : ∃ k : Nat, p.1.1 = k + (By.length - 1) := ⟨p.1.1 - (By.length - 1), by omega⟩
          have hkn : k < P.length := by omega
          have hcq : W.cell? ⟨gq, k, none⟩ = some (.int .u8 ((St P By (Gf.inv lt) pre).1[k]?.getD 0 : Nat)) := by
            simp only [World.cell?, q0]
            rw [if_neg (by simp), List.getElem?_toArray, cellsB_get (by rw [HS1.out]; exact hkn)]
          have hfq : W.frozen? ⟨gq, k, none⟩ = false := by simp [World.frozen?, q0]
          obtain ⟨oq, hoq⟩ : ∃ oq, (St P By (Gf.inv lt) pre).1[k]?.getD 0 = oq := ⟨_, rfl⟩
          rw [hoq] at hcq
          have hki : ((p.1.1 : Nat) : Int) - ((By.length : Int) - 1) = (k : Int) := by omega
          clear hoq q0
          have Hhk : Hid (p.1.1 = k + (By.length - 1)) := hk
          clear hk
          have hgqT : gq < Wc.heap.size := (Array.getElem?_eq_some_iff.1 HF'.out.quo).1
          have hgq2 := HF'.out.gq_
          gi_wp2_with fail
          have D8 := ((HDD.out.setq hgq2 hgqT (by omega) (fun _ g e => by injection e with e; injection e with e; subst e; exact g2) k (Gf.gm ri (Gf.inv lt)))).drew
          have hB8 : Below w.heap.size w (W.setCell ⟨gq, k, none⟩ (.int .u8 (Gf.gm ri (Gf.inv lt)))).drew := (hB.setCell (p := ⟨gq, k, none⟩) (by show w.heap.size ≤ gq; omega) _).drew
          have hK8 : KeepsOthers W (W.setCell ⟨gq, k, none⟩ (.int .u8 (Gf.gm ri (Gf.inv lt)))).drew := (KeepsOthers.setCell _ _ _).trans (KeepsOthers.drew _)
          have hX8 : (W.setCell ⟨gq, k, none⟩ (.int .u8 (Gf.gm ri (Gf.inv lt)))).drew.cell? ⟨w3.heap.size + 1, 0, none⟩ = W.cell? ⟨w3.heap.size + 1, 0, none⟩ := World.cell?_setCell_other _ _ _ _ (by intro c; injection c; omega)
          have h58 : (W.setCell ⟨gq, k, none⟩ (.int .u8 (Gf.gm ri (Gf.inv lt)))).drew.heap[gr]? = some (.cells cur 5 (0, 0)) := (Below.heap_setCell W ⟨gq, k, none⟩ _ gr g2).trans HR5.out
          generalize hW8 : (W.setCell ⟨gq, k, none⟩ (.int .u8 (Gf.gm ri (Gf.inv lt)))).drew = W8 at *
          clear hW8 e0 e1 e2 e3 e4 hcq hfq
          have r1 := D8.hr
          have r2 := D8.tp
          have r3 := D8.by_
          have HD8 : Hid (DivI w (.slice (some ⟨b, off, none⟩) By.length cbp) gq (some ⟨gr, 0, none⟩) cr P.length Wc.heap.size w3.heap.size ((By.length : Int) - 1) (Gf.inv lt) ((St P By (Gf.inv lt) pre).1.set k (Gf.gm ri (Gf.inv lt)), (St P By (Gf.inv lt) pre).2) W8) := D8
          have HBy : Hid (BsN gr W8.drew (.slice (some ⟨b, off, none⟩) By.length cbp) By) := ((HQ.out.below hB8.drew)).ne (by omega)
          have hcr := HF'.out.cap_.1
          have H58 : Hid (W8.heap[gr]? = some (.cells cur 5 (0, 0))) := h58
          clear D8 h58
          have hkb : k + By.length ≤ P.length := by have := Hhk.out; omega
          have hkc : k < cr := by omega
          have hkc2 : ¬ cr = k := by omega
          have hkc3 : ¬ k = cr := by omega
          have hkc4 : k ≤ P.length := by omega
          have hkc5 : k ≤ cr := by omega
          have hwk : IntKind.i64.wrap (k : Int) = (k : Int) := by rw [IntKind.wrap_i64]; omega
          refine Code.wpIn_mono (Q := Exit.then (fun a w9 => OnlyAt gr (.cells (upd cur k (fun j => (St P By (Gf.inv lt) pre).2[k + j]?.getD 0 ^^^ Gf.gm (By[j]?.getD 0) (Gf.gm ri (Gf.inv lt))) By.length) 5 (0, 0)) W8 w9) (fun _ _ _ => False)) ?fin ?reg
          case reg =>
            refine region_any_round rfl hmx (by rfl) ?_
            simp only [List.size_toArray, List.length_cons, List.length_nil, Nat.reduceAdd, Array.replicate_succ, Array.replicate_zero, List.push_toArray, List.nil_append, List.cons_append]
            refine wpAnyIn_take (i := 1) (v := ?_) rfl rfl (by kernel_rfl) (by kernel_rfl) (by kernel_rfl) (fun _ _ _ h => h) ⟨Or.inl ⟨by rfl, ?hy⟩, fun _ => rfl⟩ ?_
            case hy => intro w; go_simp; with_reducible rfl
            refine wpAnyIn_take (i := 6) (v := ?_) rfl rfl (by kernel_rfl) (by kernel_rfl) (by kernel_rfl) (fun _ _ _ h => h) ⟨Or.inl ⟨by rfl, ?hy⟩, fun _ => rfl⟩ ?_
            case hy => intro w; go_simp; with_reducible rfl
            refine wpAnyIn_ready (rs := [0, 2, 5]) (by kernel_rfl) (by simp) ?_
            refine AllReadyIn.cons rfl (fun K hK => ?_) ?_
            · go_simp
              refine hK _ _ ?_
              clear hK K
              refine wpAnyIn_ready (rs := [2, 5]) (by kernel_rfl) (by simp) ?_
              refine AllReadyIn.cons rfl (fun K hK => ?_) ?_
              · go_simp
                refine hK _ _ ?_
                clear hK K
                refine wpAnyIn_ready (rs := [3, 5]) (by kernel_rfl) (by simp) ?_
                refine AllReadyIn.cons rfl (fun K hK => ?_) ?_
                · go_simp
                  refine hK _ _ ?_
                  clear hK K
                  refine wpAnyIn_ready (rs := [4, 5]) (by kernel_rfl) (by simp) ?_
                  refine AllReadyIn.cons rfl (fun K hK => ?_) ?_
                  · go_simp
                    refine hK _ _ ?_
                    clear hK K
                    refine wpAnyIn_ready (rs := [5]) (by kernel_rfl) (by simp) ?_
                    refine AllReadyIn.cons rfl (fun K hK => ?_) ?_
                    · go_simp
                      refine hK _ _ ?_
                      clear hK K
                      refine wpAnyIn_ready (rs := [7]) (by kernel_rfl) (by simp) ?_
                      refine AllReadyIn.cons rfl (fun K hK => ?_) ?_
                      · go_simp
                        gi_at_call 22
                        refine (callsIn_wide.2 (addTimes_any gr k (P.length - k) _ cur (fun j => (St P By (Gf.inv lt) pre).2[k + j]?.getD 0) _ By _ _ (by omega) (by omega) HBy.out (by omega) (by omega) H58.out (fun j hj => ⟨getD_lt HS4.out _, H6.out _ (by omega)⟩))).mono ?_
                        rintro e w9 ⟨⟨v, rfl⟩, hO⟩
                        rw [Int.toNat_natCast] at hO
                        refine hK _ _ ?_
                        clear hK K
                        refine wpAnyIn_done (by kernel_rfl) ?_ _
                        exact hO.of_drew
                      exact AllReadyIn.nil
                    exact AllReadyIn.nil
                  refine AllReadyIn.cons rfl (fun K hK => ?_) ?_
                  · go_simp
                    refine hK _ _ ?_
                    clear hK K
                    refine wpAnyIn_ready (rs := [4]) (by kernel_rfl) (by simp) ?_
                    refine AllReadyIn.cons rfl (fun K hK => ?_) ?_
                    · go_simp
                      refine hK _ _ ?_
                      clear hK K
                      refine wpAnyIn_ready (rs := [7]) (by kernel_rfl) (by simp) ?_
                      refine AllReadyIn.cons rfl (fun K hK => ?_) ?_
                      · go_simp
                        gi_at_call 22
                        refine (callsIn_wide.2 (addTimes_any gr k (P.length - k) _ cur (fun j => (St P By (Gf.inv lt) pre).2[k + j]?.getD 0) _ By _ _ (by omega) (by omega) HBy.out (by omega) (by omega) H58.out (fun j hj => ⟨getD_lt HS4.out _, H6.out _ (by omega)⟩))).mono ?_
                        rintro e w9 ⟨⟨v, rfl⟩, hO⟩
                        rw [Int.toNat_natCast] at hO
                        refine hK _ _ ?_
                        clear hK K
                        refine wpAnyIn_done (by kernel_rfl) ?_ _
                        exact hO.of_drew
                      exact AllReadyIn.nil
                    exact AllReadyIn.nil
                  exact AllReadyIn.nil
                refine AllReadyIn.cons rfl (fun K hK => ?_) ?_
                · go_simp
                  refine hK _ _ ?_
                  clear hK K
                  refine wpAnyIn_ready (rs := [3]) (by kernel_rfl) (by simp) ?_
                  refine AllReadyIn.cons rfl (fun K hK => ?_) ?_
                  · go_simp
                    refine hK _ _ ?_
                    clear hK K
                    refine wpAnyIn_ready (rs := [4]) (by kernel_rfl) (by simp) ?_
                    refine AllReadyIn.cons rfl (fun K hK => ?_) ?_
                    · go_simp
                      refine hK _ _ ?_
                      clear hK K
                      refine wpAnyIn_ready (rs := [7]) (by kernel_rfl) (by simp) ?_
                      refine AllReadyIn.cons rfl (fun K hK => ?_) ?_
                      · go_simp
                        gi_at_call 22
                        refine (callsIn_wide.2 (addTimes_any gr k (P.length - k) _ cur (fun j => (St P By (Gf.inv lt) pre).2[k + j]?.getD 0) _ By _ _ (by omega) (by omega) HBy.out (by omega) (by omega) H58.out (fun j hj => ⟨getD_lt HS4.out _, H6.out _ (by omega)⟩))).mono ?_
                        rintro e w9 ⟨⟨v, rfl⟩, hO⟩
                        rw [Int.toNat_natCast] at hO
                        refine hK _ _ ?_
                        clear hK K
                        refine wpAnyIn_done (by kernel_rfl) ?_ _
                        exact hO.of_drew
                      exact AllReadyIn.nil
                    exact AllReadyIn.nil
                  exact AllReadyIn.nil
                exact AllReadyIn.nil
              refine AllReadyIn.cons rfl (fun K hK => ?_) ?_
              · go_simp
                refine hK _ _ ?_
                clear hK K
                refine wpAnyIn_ready (rs := [2]) (by kernel_rfl) (by simp) ?_
                refine AllReadyIn.cons rfl (fun K hK => ?_) ?_
                · go_simp
                  refine hK _ _ ?_
                  clear hK K
                  refine wpAnyIn_ready (rs := [3]) (by kernel_rfl) (by simp) ?_
                  refine AllReadyIn.cons rfl (fun K hK => ?_) ?_
                  · go_simp
                    refine hK _ _ ?_
                    clear hK K
                    refine wpAnyIn_ready (rs := [4]) (by kernel_rfl) (by simp) ?_
                    refine AllReadyIn.cons rfl (fun K hK => ?_) ?_
                    · go_simp
                      refine hK _ _ ?_
                      clear hK K
                      refine wpAnyIn_ready (rs := [7]) (by kernel_rfl) (by simp) ?_
                      refine AllReadyIn.cons rfl (fun K hK => ?_) ?_
                      · go_simp
                        gi_at_call 22
                        refine (callsIn_wide.2 (addTimes_any gr k (P.length - k) _ cur (fun j => (St P By (Gf.inv lt) pre).2[k + j]?.getD 0) _ By _ _ (by omega) (by omega) HBy.out (by omega) (by omega) H58.out (fun j hj => ⟨getD_lt HS4.out _, H6.out _ (by omega)⟩))).mono ?_
                        rintro e w9 ⟨⟨v, rfl⟩, hO⟩
                        rw [Int.toNat_natCast] at hO
                        refine hK _ _ ?_
                        clear hK K
                        refine wpAnyIn_done (by kernel_rfl) ?_ _
                        exact hO.of_drew
                      exact AllReadyIn.nil
                    exact AllReadyIn.nil
                  exact AllReadyIn.nil
                exact AllReadyIn.nil
              exact AllReadyIn.nil
            refine AllReadyIn.cons rfl (fun K hK => ?_) ?_
            · go_simp
              refine hK _ _ ?_
              clear hK K
              refine wpAnyIn_ready (rs := [0, 3, 5]) (by kernel_rfl) (by simp) ?_
              refine AllReadyIn.cons rfl (fun K hK => ?_) ?_
              · go_simp
                refine hK _ _ ?_
                clear hK K
                refine wpAnyIn_ready (rs := [3, 5]) (by kernel_rfl) (by simp) ?_
                refine AllReadyIn.cons rfl (fun K hK => ?_) ?_
                · go_simp
                  refine hK _ _ ?_
                  clear hK K
                  refine wpAnyIn_ready (rs := [4, 5]) (by kernel_rfl) (by simp) ?_
                  refine AllReadyIn.cons rfl (fun K hK => ?_) ?_
                  · go_simp
                    refine hK _ _ ?_
                    clear hK K
                    refine wpAnyIn_ready (rs := [5]) (by kernel_rfl) (by simp) ?_
                    refine AllReadyIn.cons rfl (fun K hK => ?_) ?_
                    · go_simp
                      refine hK _ _ ?_
                      clear hK K
                      refine wpAnyIn_ready (rs := [7]) (by kernel_rfl) (by simp) ?_
                      refine AllReadyIn.cons rfl (fun K hK => ?_) ?_
                      · go_simp
                        gi_at_call 22
                        refine (callsIn_wide.2 (addTimes_any gr k (P.length - k) _ cur (fun j => (St P By (Gf.inv lt) pre).2[k + j]?.getD 0) _ By _ _ (by omega) (by omega) HBy.out (by omega) (by omega) H58.out (fun j hj => ⟨getD_lt HS4.out _, H6.out _ (by omega)⟩))).mono ?_
                        rintro e w9 ⟨⟨v, rfl⟩, hO⟩
                        rw [Int.toNat_natCast] at hO
                        refine hK _ _ ?_
                        clear hK K
                        refine wpAnyIn_done (by kernel_rfl) ?_ _
                        exact hO.of_drew
                      exact AllReadyIn.nil
                    exact AllReadyIn.nil
                  refine AllReadyIn.cons rfl (fun K hK => ?_) ?_
                  · go_simp
                    refine hK _ _ ?_
                    clear hK K
                    refine wpAnyIn_ready (rs := [4]) (by kernel_rfl) (by simp) ?_
                    refine AllReadyIn.cons rfl (fun K hK => ?_) ?_
                    · go_simp
                      refine hK _ _ ?_
                      clear hK K
                      refine wpAnyIn_ready (rs := [7]) (by kernel_rfl) (by simp) ?_
                      refine AllReadyIn.cons rfl (fun K hK => ?_) ?_
                      · go_simp
                        gi_at_call 22
                        refine (callsIn_wide.2 (addTimes_any gr k (P.length - k) _ cur (fun j => (St P By (Gf.inv lt) pre).2[k + j]?.getD 0) _ By _ _ (by omega) (by omega) HBy.out (by omega) (by omega) H58.out (fun j hj => ⟨getD_lt HS4.out _, H6.out _ (by omega)⟩))).mono ?_
                        rintro e w9 ⟨⟨v, rfl⟩, hO⟩
                        rw [Int.toNat_natCast] at hO
                        refine hK _ _ ?_
                        clear hK K
                        refine wpAnyIn_done (by kernel_rfl) ?_ _
                        exact hO.of_drew
                      exact AllReadyIn.nil
                    exact AllReadyIn.nil
                  exact AllReadyIn.nil
                refine AllReadyIn.cons rfl (fun K hK => ?_) ?_
                · go_simp
                  refine hK _ _ ?_
                  clear hK K
                  refine wpAnyIn_ready (rs := [3]) (by kernel_rfl) (by simp) ?_
                  refine AllReadyIn.cons rfl (fun K hK => ?_) ?_
                  · go_simp
                    refine hK _ _ ?_
                    clear hK K
                    refine wpAnyIn_ready (rs := [4]) (by kernel_rfl) (by simp) ?_
                    refine AllReadyIn.cons rfl (fun K hK => ?_) ?_
                    · go_simp
                      refine hK _ _ ?_
                      clear hK K
                      refine wpAnyIn_ready (rs := [7]) (by kernel_rfl) (by simp) ?_
                      refine AllReadyIn.cons rfl (fun K hK => ?_) ?_
                      · go_simp
                        gi_at_call 22
                        refine (callsIn_wide.2 (addTimes_any gr k (P.length - k) _ cur (fun j => (St P By (Gf.inv lt) pre).2[k + j]?.getD 0) _ By _ _ (by omega) (by omega) HBy.out (by omega) (by omega) H58.out (fun j hj => ⟨getD_lt HS4.out _, H6.out _ (by omega)⟩))).mono ?_
                        rintro e w9 ⟨⟨v, rfl⟩, hO⟩
                        rw [Int.toNat_natCast] at hO
                        refine hK _ _ ?_
                        clear hK K
                        refine wpAnyIn_done (by kernel_rfl) ?_ _
                        exact hO.of_drew
                      exact AllReadyIn.nil
                    exact AllReadyIn.nil
                  exact AllReadyIn.nil
                exact AllReadyIn.nil
              refine AllReadyIn.cons rfl (fun K hK => ?_) ?_
              · go_simp
                refine hK _ _ ?_
                clear hK K
                refine wpAnyIn_ready (rs := [0, 5]) (by kernel_rfl) (by simp) ?_
                refine AllReadyIn.cons rfl (fun K hK => ?_) ?_
                · go_simp
                  refine hK _ _ ?_
                  clear hK K
                  refine wpAnyIn_ready (rs := [4, 5]) (by kernel_rfl) (by simp) ?_
                  refine AllReadyIn.cons rfl (fun K hK => ?_) ?_
                  · go_simp
                    refine hK _ _ ?_
                    clear hK K
                    refine wpAnyIn_ready (rs := [5]) (by kernel_rfl) (by simp) ?_
                    refine AllReadyIn.cons rfl (fun K hK => ?_) ?_
                    · go_simp
                      refine hK _ _ ?_
                      clear hK K
                      refine wpAnyIn_ready (rs := [7]) (by kernel_rfl) (by simp) ?_
                      refine AllReadyIn.cons rfl (fun K hK => ?_) ?_
                      · go_simp
                        gi_at_call 22
                        refine (callsIn_wide.2 (addTimes_any gr k (P.length - k) _ cur (fun j => (St P By (Gf.inv lt) pre).2[k + j]?.getD 0) _ By _ _ (by omega) (by omega) HBy.out (by omega) (by omega) H58.out (fun j hj => ⟨getD_lt HS4.out _, H6.out _ (by omega)⟩))).mono ?_
                        rintro e w9 ⟨⟨v, rfl⟩, hO⟩
                        rw [Int.toNat_natCast] at hO
                        refine hK _ _ ?_
                        clear hK K
                        refine wpAnyIn_done (by kernel_rfl) ?_ _
                        exact hO.of_drew
                      exact AllReadyIn.nil
                    exact AllReadyIn.nil
                  refine AllReadyIn.cons rfl (fun K hK => ?_) ?_
                  · go_simp
                    refine hK _ _ ?_
                    clear hK K
                    refine wpAnyIn_ready (rs := [4]) (by kernel_rfl) (by simp) ?_
                    refine AllReadyIn.cons rfl (fun K hK => ?_) ?_
                    · go_simp
                      refine hK _ _ ?_
                      clear hK K
                      refine wpAnyIn_ready (rs := [7]) (by kernel_rfl) (by simp) ?_
                      refine AllReadyIn.cons rfl (fun K hK => ?_) ?_
                      · go_simp
                        gi_at_call 22
                        refine (callsIn_wide.2 (addTimes_any gr k (P.length - k) _ cur (fun j => (St P By (Gf.inv lt) pre).2[k + j]?.getD 0) _ By _ _ (by omega) (by omega) HBy.out (by omega) (by omega) H58.out (fun j hj => ⟨getD_lt HS4.out _, H6.out _ (by omega)⟩))).mono ?_
                        rintro e w9 ⟨⟨v, rfl⟩, hO⟩
                        rw [Int.toNat_natCast] at hO
                        refine hK _ _ ?_
                        clear hK K
                        refine wpAnyIn_done (by kernel_rfl) ?_ _
                        exact hO.of_drew
                      exact AllReadyIn.nil
                    exact AllReadyIn.nil
                  exact AllReadyIn.nil
                refine AllReadyIn.cons rfl (fun K hK => ?_) ?_
                · go_simp
                  refine hK _ _ ?_
                  clear hK K
                  refine wpAnyIn_ready (rs := [0]) (by kernel_rfl) (by simp) ?_
                  refine AllReadyIn.cons rfl (fun K hK => ?_) ?_
                  · go_simp
                    refine hK _ _ ?_
                    clear hK K
                    refine wpAnyIn_ready (rs := [4]) (by kernel_rfl) (by simp) ?_
                    refine AllReadyIn.cons rfl (fun K hK => ?_) ?_
                    · go_simp
                      refine hK _ _ ?_
                      clear hK K
                      refine wpAnyIn_ready (rs := [7]) (by kernel_rfl) (by simp) ?_
                      refine AllReadyIn.cons rfl (fun K hK => ?_) ?_
                      · go_simp
                        gi_at_call 22
                        refine (callsIn_wide.2 (addTimes_any gr k (P.length - k) _ cur (fun j => (St P By (Gf.inv lt) pre).2[k + j]?.getD 0) _ By _ _ (by omega) (by omega) HBy.out (by omega) (by omega) H58.out (fun j hj => ⟨getD_lt HS4.out _, H6.out _ (by omega)⟩))).mono ?_
                        rintro e w9 ⟨⟨v, rfl⟩, hO⟩
                        rw [Int.toNat_natCast] at hO
                        refine hK _ _ ?_
                        clear hK K
                        refine wpAnyIn_done (by kernel_rfl) ?_ _
                        exact hO.of_drew
                      exact AllReadyIn.nil
                    exact AllReadyIn.nil
                  exact AllReadyIn.nil
                exact AllReadyIn.nil
              refine AllReadyIn.cons rfl (fun K hK => ?_) ?_
              · go_simp
                refine hK _ _ ?_
                clear hK K
                refine wpAnyIn_ready (rs := [0, 3]) (by kernel_rfl) (by simp) ?_
                refine AllReadyIn.cons rfl (fun K hK => ?_) ?_
                · go_simp
                  refine hK _ _ ?_
                  clear hK K
                  refine wpAnyIn_ready (rs := [3]) (by kernel_rfl) (by simp) ?_
                  refine AllReadyIn.cons rfl (fun K hK => ?_) ?_
                  · go_simp
                    refine hK _ _ ?_
                    clear hK K
                    refine wpAnyIn_ready (rs := [4]) (by kernel_rfl) (by simp) ?_
                    refine AllReadyIn.cons rfl (fun K hK => ?_) ?_
                    · go_simp
                      refine hK _ _ ?_
                      clear hK K
                      refine wpAnyIn_ready (rs := [7]) (by kernel_rfl) (by simp) ?_
                      refine AllReadyIn.cons rfl (fun K hK => ?_) ?_
                      · go_simp
                        gi_at_call 22
                        refine (callsIn_wide.2 (addTimes_any gr k (P.length - k) _ cur (fun j => (St P By (Gf.inv lt) pre).2[k + j]?.getD 0) _ By _ _ (by omega) (by omega) HBy.out (by omega) (by omega) H58.out (fun j hj => ⟨getD_lt HS4.out _, H6.out _ (by omega)⟩))).mono ?_
                        rintro e w9 ⟨⟨v, rfl⟩, hO⟩
                        rw [Int.toNat_natCast] at hO
                        refine hK _ _ ?_
                        clear hK K
                        refine wpAnyIn_done (by kernel_rfl) ?_ _
                        exact hO.of_drew
                      exact AllReadyIn.nil
                    exact AllReadyIn.nil
                  exact AllReadyIn.nil
                refine AllReadyIn.cons rfl (fun K hK => ?_) ?_
                · go_simp
                  refine hK _ _ ?_
                  clear hK K
                  refine wpAnyIn_ready (rs := [0]) (by kernel_rfl) (by simp) ?_
                  refine AllReadyIn.cons rfl (fun K hK => ?_) ?_
                  · go_simp
                    refine hK _ _ ?_
                    clear hK K
                    refine wpAnyIn_ready (rs := [4]) (by kernel_rfl) (by simp) ?_
                    refine AllReadyIn.cons rfl (fun K hK => ?_) ?_
                    · go_simp
                      refine hK _ _ ?_
                      clear hK K
                      refine wpAnyIn_ready (rs := [7]) (by kernel_rfl) (by simp) ?_
                      refine AllReadyIn.cons rfl (fun K hK => ?_) ?_
                      · go_simp
                        gi_at_call 22
                        refine (callsIn_wide.2 (addTimes_any gr k (P.length - k) _ cur (fun j => (St P By (Gf.inv lt) pre).2[k + j]?.getD 0) _ By _ _ (by omega) (by omega) HBy.out (by omega) (by omega) H58.out (fun j hj => ⟨getD_lt HS4.out _, H6.out _ (by omega)⟩))).mono ?_
                        rintro e w9 ⟨⟨v, rfl⟩, hO⟩
                        rw [Int.toNat_natCast] at hO
                        refine hK _ _ ?_
                        clear hK K
                        refine wpAnyIn_done (by kernel_rfl) ?_ _
                        exact hO.of_drew
                      exact AllReadyIn.nil
                    exact AllReadyIn.nil
                  exact AllReadyIn.nil
                exact AllReadyIn.nil
              exact AllReadyIn.nil
            refine AllReadyIn.cons rfl (fun K hK => ?_) ?_
            · go_simp
              refine hK _ _ ?_
              clear hK K
              refine wpAnyIn_ready (rs := [0, 2]) (by kernel_rfl) (by simp) ?_
              refine AllReadyIn.cons rfl (fun K hK => ?_) ?_
              · go_simp
                refine hK _ _ ?_
                clear hK K
                refine wpAnyIn_ready (rs := [2]) (by kernel_rfl) (by simp) ?_
                refine AllReadyIn.cons rfl (fun K hK => ?_) ?_
                · go_simp
                  refine hK _ _ ?_
                  clear hK K
                  refine wpAnyIn_ready (rs := [3]) (by kernel_rfl) (by simp) ?_
                  refine AllReadyIn.cons rfl (fun K hK => ?_) ?_
                  · go_simp
                    refine hK _ _ ?_
                    clear hK K
                    refine wpAnyIn_ready (rs := [4]) (by kernel_rfl) (by simp) ?_
                    refine AllReadyIn.cons rfl (fun K hK => ?_) ?_
                    · go_simp
                      refine hK _ _ ?_
                      clear hK K
                      refine wpAnyIn_ready (rs := [7]) (by kernel_rfl) (by simp) ?_
                      refine AllReadyIn.cons rfl (fun K hK => ?_) ?_
                      · go_simp
                        gi_at_call 22
                        refine (callsIn_wide.2 (addTimes_any gr k (P.length - k) _ cur (fun j => (St P By (Gf.inv lt) pre).2[k + j]?.getD 0) _ By _ _ (by omega) (by omega) HBy.out (by omega) (by omega) H58.out (fun j hj => ⟨getD_lt HS4.out _, H6.out _ (by omega)⟩))).mono ?_
                        rintro e w9 ⟨⟨v, rfl⟩, hO⟩
                        rw [Int.toNat_natCast] at hO
                        refine hK _ _ ?_
                        clear hK K
                        refine wpAnyIn_done (by kernel_rfl) ?_ _
                        exact hO.of_drew
                      exact AllReadyIn.nil
                    exact AllReadyIn.nil
                  exact AllReadyIn.nil
                exact AllReadyIn.nil
              refine AllReadyIn.cons rfl (fun K hK => ?_) ?_
              · go_simp
                refine hK _ _ ?_
                clear hK K
                refine wpAnyIn_ready (rs := [0, 3]) (by kernel_rfl) (by simp) ?_
                refine AllReadyIn.cons rfl (fun K hK => ?_) ?_
                · go_simp
                  refine hK _ _ ?_
                  clear hK K
                  refine wpAnyIn_ready (rs := [3]) (by kernel_rfl) (by simp) ?_
                  refine AllReadyIn.cons rfl (fun K hK => ?_) ?_
                  · go_simp
                    refine hK _ _ ?_
                    clear hK K
                    refine wpAnyIn_ready (rs := [4]) (by kernel_rfl) (by simp) ?_
                    refine AllReadyIn.cons rfl (fun K hK => ?_) ?_
                    · go_simp
                      refine hK _ _ ?_
                      clear hK K
                      refine wpAnyIn_ready (rs := [7]) (by kernel_rfl) (by simp) ?_
                      refine AllReadyIn.cons rfl (fun K hK => ?_) ?_
                      · go_simp
                        gi_at_call 22
                        refine (callsIn_wide.2 (addTimes_any gr k (P.length - k) _ cur (fun j => (St P By (Gf.inv lt) pre).2[k + j]?.getD 0) _ By _ _ (by omega) (by omega) HBy.out (by omega) (by omega) H58.out (fun j hj => ⟨getD_lt HS4.out _, H6.out _ (by omega)⟩))).mono ?_
                        rintro e w9 ⟨⟨v, rfl⟩, hO⟩
                        rw [Int.toNat_natCast] at hO
                        refine hK _ _ ?_
                        clear hK K
                        refine wpAnyIn_done (by kernel_rfl) ?_ _
                        exact hO.of_drew
                      exact AllReadyIn.nil
                    exact AllReadyIn.nil
                  exact AllReadyIn.nil
                refine AllReadyIn.cons rfl (fun K hK => ?_) ?_
                · go_simp
                  refine hK _ _ ?_
                  clear hK K
                  refine wpAnyIn_ready (rs := [0]) (by kernel_rfl) (by simp) ?_
                  refine AllReadyIn.cons rfl (fun K hK => ?_) ?_
                  · go_simp
                    refine hK _ _ ?_
                    clear hK K
                    refine wpAnyIn_ready (rs := [4]) (by kernel_rfl) (by simp) ?_
                    refine AllReadyIn.cons rfl (fun K hK => ?_) ?_
                    · go_simp
                      refine hK _ _ ?_
                      clear hK K
                      refine wpAnyIn_ready (rs := [7]) (by kernel_rfl) (by simp) ?_
                      refine AllReadyIn.cons rfl (fun K hK => ?_) ?_
                      · go_simp
                        gi_at_call 22
                        refine (callsIn_wide.2 (addTimes_any gr k (P.length - k) _ cur (fun j => (St P By (Gf.inv lt) pre).2[k + j]?.getD 0) _ By _ _ (by omega) (by omega) HBy.out (by omega) (by omega) H58.out (fun j hj => ⟨getD_lt HS4.out _, H6.out _ (by omega)⟩))).mono ?_
                        rintro e w9 ⟨⟨v, rfl⟩, hO⟩
                        rw [Int.toNat_natCast] at hO
                        refine hK _ _ ?_
                        clear hK K
                        refine wpAnyIn_done (by kernel_rfl) ?_ _
                        exact hO.of_drew
                      exact AllReadyIn.nil
                    exact AllReadyIn.nil
                  exact AllReadyIn.nil
                exact AllReadyIn.nil
              exact AllReadyIn.nil
            exact AllReadyIn.nil
          case fin =>
            intro e a w9 h
            cases e <;> first | exact h.elim | skip
            have h9 : OnlyAt gr (.cells (upd cur k (fun j => (St P By (Gf.inv lt) pre).2[k + j]?.getD 0 ^^^ Gf.gm (By[j]?.getD 0) (Gf.gm ri (Gf.inv lt))) By.length) 5 (0, 0)) W8 w9 := h
            clear h
            have D9 := HD8.out.addr HS2.out H6.out h9 g1 g3 (by omega) g2
            have hst : St P By (Gf.inv lt) (pre ++ [p]) = ((St P By (Gf.inv lt) pre).1.set k (Gf.gm ri (Gf.inv lt)), addAt (St P By (Gf.inv lt) pre).2 k By (Gf.gm ri (Gf.inv lt))) := by
              rw [St_snoc]
              unfold dstep
              rw [HRI.out, show p.1.1 - (By.length - 1) = k by have := Hhk.out; omega]
            have hB9 : Below w.heap.size w w9 := hB8.trans (h9.below (by omega))
            refine ⟨(hK8.trans (h9.keeps H58.out)).from _, ?_, ?_⟩
            rotate_left
            · show _ ∧ _
              refine ⟨⟨?_, ?_⟩, hB9⟩
              · intro q hq
                rcases List.mem_append.1 hq with hq | hq
                · exact hp q hq
                · simp at hq; subst hq; omega
              · rw [hst]; exact D9
            · intro g' e' hr
              injection e' with e'
              injection e' with e'
              subst e'
              refine ⟨((h9.cell (p := ⟨w3.heap.size + 1, 0, none⟩) (by show w3.heap.size + 1 ≠ gr; omega)).trans hX8).trans hr.1, fun j hj => ?_⟩
              rcases D9.rest with h0 | ⟨gr', cur', f1, f2, f3⟩
              · omega
              · injection f1 with f1
                injection f1 with f1
                subst f1
                refine ⟨(addAt (St P By (Gf.inv lt) pre).2 k By (Gf.gm ri (Gf.inv lt)))[j]?.getD 0, getD_lt (addAt_lt HS4.out Hq1.out _ _) _, ?_⟩
                rw [Nat.zero_add]
                simp only [World.cell?, f2]
                rw [if_neg (by simp)]
                exact f3 j hj
        refine Code.wpIn_mono (Q := Exit.then K2 (fun _ _ _ => False)) ?_ ?_
        · intro e a w h
          cases e <;> first | exact h | exact h.elim
        have HM : Hid (K2 { tmps := #[(.slice ao P.length cap), (.slice (some ⟨b, off, none⟩) By.length cbp), undef, (.pointer (some ⟨w.heap.size, 0, none⟩)), (.pointer (some ⟨w.heap.size + 1, 0, none⟩)), (.pointer (some ⟨w.heap.size + 1 + 1, 0, none⟩)), (.pointer (some ⟨Wc.heap.size, 0, none⟩)), (.pointer (some ⟨w3.heap.size, 0, none⟩)), (.int .i64 0), (.int .i64 (p.1.1 : Nat)), (.int .u8 (Gf.gm ri (Gf.inv lt))), (.slice ao P.length cap), (.int .i64 P.length), (.slice (some ⟨gq, 0, none⟩) P.length P.length), (.slice ao P.length cap), (.slice (some ⟨gr, 0, none⟩) P.length cr), (.slice (some ⟨b, off, none⟩) By.length cbp), (.int .i64 By.length), (.int .i64 ((By.length : Int) - 1)), (.tuple #[.int .u8 (Gf.inv lt), .int .i64 0]), (.slice (some ⟨b, off, none⟩) By.length cbp), (.int .i64 ((By.length : Int) - 1)), (.pointer (some ⟨b, off + (By.length - 1), none⟩)), (.int .u8 lt), (.tuple #[.int .u8 (Gf.inv lt), .int .i64 0]), (.int .u8 (Gf.inv lt)), (.int .i64 0), (.slice (some ⟨gr, 0, none⟩) P.length cr), (.func (.func 23) #[] #[.pointer (some ⟨w3.heap.size + 1, 0, none⟩)]), (.int .i64 (p.1.1 : Nat)), (.int .u8 (p.1.2 : Nat)), (.int .i64 (p.1.1 : Nat)), (.int .i64 ((By.length : Int) - 1)), (.bool (decide (((p.1.1 : Nat) : Int) < (By.length : Int) - 1))), (.slice (some ⟨gr, 0, none⟩) P.length cr), (.int .i64 (p.1.1 : Nat)), (.pointer (some ⟨gr, p.1.1, none⟩)), (.int .u8 ri), (.int .u8 (Gf.inv lt)), (.int .u8 (Gf.gm ri (Gf.inv lt))), undef, undef, undef, undef, undef, undef, undef, undef, undef, undef, undef, undef, undef, undef, undef, undef], defers := [] } W.drew) := hmid
        clear hmid hK2
        gi_region_with_o (gi_at_call 17; refine (CallsIn.inRound l (callsIn_wide.2 (mul_any _ _ _ (by omega) (by omega) (by omega) (by omega)))).mono ?_; rintro e w1 ⟨rfl, rfl⟩; rw [Int.toNat_natCast, Int.toNat_natCast])
        all_goals exact HM
    case done =>
      rintro D ys W hD' hys ⟨⟨hp, hD⟩, hB⟩ hK
      exact HFin.out D W _ hD (St_done hys hp) hB hD' hK
    case stop =>
      rintro D c pre W hD' hpre ⟨⟨rfl, ini, last, e1, e2, e3, hD⟩, hB⟩ hK
      exact wpIn_exit (HFin.out D W _ hD (St_stop hpre e1 e2 e3) hB hD' hK)
  refine Code.wp_mono (Q := Exit.then K (fun _ _ _ => False)) ?_ ?_
  · intro e a w h
    cases e <;> first | exact h | exact h.elim
  go_region_with (go_at_call 16; go_must ( refine (clone_any _ P w.heap.size _ (by refine HP.out.below ?_; repeat (first | exact Below.refl _ _ | refine Below.drew ?_ | refine Below.alloc ?_ (by simp; try omega) _))).mono ?_; rintro e w2 ⟨v', rfl, hO, hB2⟩; obtain ⟨ao', cap', hv'⟩ := hO.shape; subst hv'; have hc1 : w2.cell? ⟨w.heap.size + 1, 0, none⟩ = some (.slice none 0 0) := (hB2.cell (p := ⟨w.heap.size + 1, 0, none⟩) (by simp)).trans (by simp [go_sem]); have hc2 : w2.cell? ⟨w.heap.size + 1 + 1, 0, none⟩ = some (.slice none 0 0) := (hB2.cell (p := ⟨w.heap.size + 1 + 1, 0, none⟩) (by simp)).trans (by simp [go_sem]); have hf1 : w2.frozen? ⟨w.heap.size + 1, 0, none⟩ = false := (hB2.frozen (p := ⟨w.heap.size + 1, 0, none⟩) (by simp)).trans (by simp [go_sem]); have hf2 : w2.frozen? ⟨w.heap.size + 1 + 1, 0, none⟩ = false := (hB2.frozen (p := ⟨w.heap.size + 1 + 1, 0, none⟩) (by simp)).trans (by simp [go_sem]); have hsz : w.heap.size + 1 + 1 < w2.heap.size := Nat.lt_of_lt_of_le (by simp) hB2.size; have hsz1 : w.heap.size + 1 < w2.heap.size := (by omega); have hsz0 : w.heap.size < w2.heap.size := (by omega)))
  · have c0 : w2.cell? ⟨w.heap.size, 0, none⟩ = some (.slice bo By.length cbp) := (hB2.cell (p := ⟨w.heap.size, 0, none⟩) (by simp; try omega)).trans (by simp [go_sem])
    have hBw : Below w.heap.size w w2 := Below.trans (by repeat (first | exact Below.refl _ _ | refine Below.drew ?_ | refine Below.alloc ?_ (by simp; try omega) _)) (hB2.mono (by simp; try omega))
    have hq3 : w2.heap[w.heap.size + 1 + 1 + 1]? = some (.cells (zc P.length) 5 (0, 0)) := by
      refine (hB2.block (w.heap.size + 1 + 1 + 1) (by simp)).trans ?_
      have := World.alloc_heap_new (((w.alloc (.cells #[.slice bo By.length cbp] 22)).alloc (.cells #[.slice none 0 0] 22)).alloc (.cells #[.slice none 0 0] 22)) (.cells (zc P.length) 5)
      simp only [World.size_alloc] at this
      exact this
    exact hrest _ _ _ _ (divF_make c0 (by rw [hc1]; rfl) hf1 (by rw [hc2]; rfl) hf2 (by omega) hq3 hO (by simp) hBw)
  · have c0 : w2.cell? ⟨w.heap.size, 0, none⟩ = some (.slice bo By.length cbp) := (hB2.cell (p := ⟨w.heap.size, 0, none⟩) (by simp; try omega)).trans (by simp [go_sem])
    have hBw : Below w.heap.size w w2 := Below.trans (by repeat (first | exact Below.refl _ _ | refine Below.drew ?_ | refine Below.alloc ?_ (by simp; try omega) _)) (hB2.mono (by simp; try omega))
    exact hrest _ _ _ _ (divF_clone c0 (by rw [hc1]; rfl) hf1 (by rw [hc2]; rfl) hf2 hO (by simp) hBw)
theorem dividep_any (pv bv : Value) (P By : List Nat) (w : World) (hP : Bs w.heap.size w pv P) (hQ : Bs w.heap.size w bv By) (hl : P.length ≤ 1000) (hm : By.length ≤ 1000) (hb : 0 < By.length) (hbl : By[By.length - 1]?.getD 0 ≠ 0) :
    Calls Try.prog 19 #[pv, bv] w fun e W' => ∃ vq vr, e = .returned (.tuple #[vq, vr]) ∧ Bs W'.heap.size W' vq (dfin P By (Gf.inv (By[By.length - 1]?.getD 0))).1 ∧ Bs W'.heap.size W' vr (dfin P By (Gf.inv (By[By.length - 1]?.getD 0))).2 ∧ Below w.heap.size w W' := by
  have hP' := hP
  have hQ' := hQ
  obtain ⟨_, _, ao, cap, rfl, _⟩ := hP
  obtain ⟨_, _, bo, cbp, rfl, _⟩ := hQ
  exact callsIn_wide.1 (divide_in ao bo cap cbp P By w hP' hQ' hl hm hb hbl)
end Go.Proofs.Ytlccdceeppfleab
