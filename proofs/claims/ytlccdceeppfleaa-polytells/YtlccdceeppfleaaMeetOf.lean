/- What the reference's MeetOf answers, place by place: what Meet answers, for all lists of bytes; and its ProductOf. -/
import Derived.Test.YtlccdceeppfleaaDivOf
namespace Go.Proofs.Ytlccdceeppfleaa
open Go.ChangeShapes Go.WideShapes Go.ChangeAt Go.RowKit Go.Shelf
theorem mst_more {M G : List Nat} {f : Nat} (hl : G.length ≤ M.length) : trim (plus (trim M) (shl G 0 f)) = trim (addAt M 0 G f) := by
  refine trim_ext fun j => ?_
  rw [co_plus, co_trim, co_shl, co_addAt (by omega)]
/-- what the reference's MeetOf answers, told by Meet's lists -/
def MeetOfEnd (o : Option (List Nat × List Nat)) (e : Ending) (w' : World) : Prop := match o with
  | none => e = .returned (.tuple #[.slice none 0 0, .int .i64 6])
  | some s => ∃ v, e = .returned (.tuple #[v, .int .i64 0]) ∧ Bs w'.heap.size w' v (trim s.1)
set_option maxRecDepth 100000 in
set_option maxHeartbeats 1000000 in
theorem meetOf_long (xv yv : Value) (xs ys : List Nat) (w : World) (hX : Bs w.heap.size w xv xs) (hY : Bs w.heap.size w yv ys) (hl : 64 < xs.length) :
    Calls Try.prog 14 #[xv, yv] w fun e w' => e = .returned (.tuple #[.slice none 0 0, .int .i64 2]) ∧ w' = w := by
  obtain ⟨_, p2, ao, cap, rfl, _⟩ := hX
  obtain ⟨_, q2, bo, cbp, rfl, _⟩ := hY
  have z : decide ((64 : Int) < (xs.length : Int)) = true := decide_eq_true (by omega)
  go_enter Try.func14, Try.ntmps14
  go_wp2_with fail
  go_ret2
  exact ⟨rfl, rfl⟩
set_option maxRecDepth 100000 in
set_option maxHeartbeats 1000000 in
theorem meetOf_form (xv yv : Value) (xs ys : List Nat) (w : World) (hX : Bs w.heap.size w xv xs) (hY : Bs w.heap.size w yv ys) (hl : xs.length ≤ 64) (hm : xs.length ≠ ys.length) :
    Calls Try.prog 14 #[xv, yv] w fun e w' => e = .returned (.tuple #[.slice none 0 0, .int .i64 1]) ∧ w' = w := by
  obtain ⟨_, p2, ao, cap, rfl, _⟩ := hX
  obtain ⟨_, q2, bo, cbp, rfl, _⟩ := hY
  have z : decide ((64 : Int) < (xs.length : Int)) = false := decide_eq_false (by omega)
  have hne : ((xs.length : Int) != (ys.length : Int)) = true := by rw [bne_iff_ne]; omega
  go_enter Try.func14, Try.ntmps14
  go_wp2_with fail
  go_ret2
  exact ⟨rfl, rfl⟩
set_option maxRecDepth 100000 in
set_option maxHeartbeats 8000000 in
theorem meetOf_any (xv yv : Value) (xs ys : List Nat) (w : World) (hX : Bs w.heap.size w xv xs) (hY : Bs w.heap.size w yv ys) (hl : xs.length ≤ 64) (hm : ys.length = xs.length) :
    Calls Try.prog 14 #[xv, yv] w fun e w' => MeetOfEnd (mst xs ys xs.length) e w' ∧ Below w.heap.size w w' := by
  have HX := hid_of hX
  have HY := hid_of hY
  have HM := hid_of hm
  obtain ⟨_, p2, ao, cap, rfl, _, _, p6⟩ := hX
  obtain ⟨_, q2, bo, cbp, rfl, _, _, q6⟩ := hY
  have P6 := hid_of p6
  have Q6 := hid_of q6
  have z : decide ((64 : Int) < (xs.length : Int)) = false := decide_eq_false (by omega)
  have hne : ((xs.length : Int) != (ys.length : Int)) = false := by rw [hm]; simp
  clear p6 q6 hm
  have HB0 := hid_of ((Below.refl w.heap.size w).alloc (Nat.le_refl _) (.cells #[.int .u8 ((1 : Nat) : Int)] 5))
  have HG0 := hid_of (bs_lit1 (w := w) 1 (by decide))
  have e0 : trim (List.replicate xs.length 0) = [] := by
    have := trim_zeros [] (List.replicate xs.length 0) (by intro y hy; exact List.eq_of_mem_replicate hy)
    simpa [trim_nil] using this
  have E0 := hid_of e0
  clear e0
  go_enter Try.func14, Try.ntmps14
  go_wp2_with fail
  go_loopw [6, 7, 8] (fun o g i w' => ∃ (k : Nat) (M G : List Nat), k ≤ xs.length ∧ i = .int .i64 k ∧ Hid (mst xs ys k = some (M, G)) ∧ Hid (Bs w'.heap.size w' o (trim M)) ∧ Hid (Bs w'.heap.size w' g G) ∧ Hid (Below w.heap.size w w')) (fun _ _ i _ => xs.length - (intOf i).toNat)
  case atStart =>
    refine ⟨0, List.replicate xs.length 0, [1], by omega, rfl, rfl, ?_, hid_of (HG0.out.mono (by simp)), HB0⟩
    rw [E0.out]
    exact Bs.nil _ _
  case round =>
    obtain ⟨k, M, G, hk, rfl, HS, HO, HG, HB⟩ := hrel
    by_cases hp : k < xs.length
    · have hp' : k < ys.length := by have := HM.out; omega
      rcases P6.out with h | ⟨b, off, rfl, hb, hc⟩
      · rw [h] at hp; simp at hp
      rcases Q6.out with h | ⟨b', off', rfl, hb', hc'⟩
      · rw [h] at hp'; simp at hp'
      have XC0 := hc k hp
      have hx := (HB.out.cell (p := ⟨b, off + k, none⟩) hb).trans (hc k hp)
      have hy := (HB.out.cell (p := ⟨b', off' + k, none⟩) hb').trans (hc' k hp')
      have hx2 := getD_lt HX.out.1 k
      have hy2 := getD_lt HY.out.1 k
      obtain ⟨i1, i2, i3, i4, _⟩ := mst_meets HX.out.1 HY.out.1 k (by omega) M G HS.out
      have hstep : mst xs ys (k + 1) = if pval G (xs[k]?.getD 0) = 0 then none else some (addAt M 0 G (Gf.gm (ys[k]?.getD 0 ^^^ pval M (xs[k]?.getD 0)) (Gf.inv (pval G (xs[k]?.getD 0)))), pm G [xs[k]?.getD 0, 1]) := by
        rw [mst, HS.out]
      obtain ⟨x, hxe⟩ : ∃ x, xs[k]?.getD 0 = x := ⟨_, rfl⟩
      obtain ⟨y, hye⟩ : ∃ x, ys[k]?.getD 0 = x := ⟨_, rfl⟩
      rw [hxe] at hx hx2 hstep XC0
      have XC := hid_of XC0
      clear XC0
      rw [hye] at hy hy2 hstep
      have hg := pval_lt i3 x
      have hu := pval_lt i2 x
      obtain ⟨v, hve⟩ : ∃ v, pval G x = v := ⟨_, rfl⟩
      obtain ⟨u, hue⟩ : ∃ u, pval M x = u := ⟨_, rfl⟩
      rw [hve] at hg hstep
      rw [hue] at hu hstep
      have hut : pval (trim M) x = u := by rw [pval_trim, hue]
      have VE := hid_of hve
      have UE := hid_of hut
      have h7 := u8_xor_nat y u hy2 hu
      have hyu := Gf.xlt hy2 hu
      have mo := hid_of (fun f => mst_more (M := M) (G := G) (f := f) (by omega))
      have gl : G.length ≤ 65 := by omega
      clear hc hc' hxe hye hve hue hut i1 i2 i3 i4
      by_cases hv : v = 0
      · rw [if_pos hv] at hstep
        subst hv
        have HN := hid_of (mst_none hstep (xs.length - (k + 1)))
        clear hstep
        go_wp2_with fail
        refine (valueOf_any _ x hx2 G _ _ HG.out).mono ?_
        rintro e w2 ⟨rfl, hw⟩
        subst hw
        rw [VE.out]
        go_wp2_with fail
        go_ret2
        have e1 : k + 1 + (xs.length - (k + 1)) = xs.length := by omega
        have := HN.out
        rw [e1] at this
        rw [this]
        exact ⟨rfl, HB.out⟩
      · rw [if_neg hv] at hstep
        have hv1 : ((v : Int) == 0) = false := by rw [beq_eq_false_iff_ne]; omega
        have hf : Gf.gm (y ^^^ u) (Gf.inv v) < 256 := Gf.gm_lt hyu
        obtain ⟨yu, hyue⟩ : ∃ f, y ^^^ u = f := ⟨_, rfl⟩
        rw [hyue] at h7 hyu hf hstep
        obtain ⟨f, hfe⟩ : ∃ f, Gf.gm yu (Gf.inv v) = f := ⟨_, rfl⟩
        rw [hfe] at hf hstep
        have FE := hid_of hfe
        have HST := hid_of hstep
        clear hstep hfe hyue
        go_wp2_with fail
        refine (valueOf_any _ x hx2 G _ _ HG.out).mono ?_
        rintro e w2 ⟨rfl, hw⟩
        subst hw
        rw [VE.out]
        have HV : Hid (∀ m, Calls Try.prog 20 #[u6, .int .u8 x] (w2.drewN m) fun e w' => e = .returned (.int .u8 u) ∧ w' = w2.drewN m) := by
          refine hid_of fun m => ?_
          have hq := valueOf_any u6 x hx2 (trim M) _ (w2.drewN m) (HO.out.drewN m)
          rw [UE.out] at hq
          exact hq
        go_wp2_with fail
        go_quiet (first
          | (go_at_call 20; refine Calls.quiet_of_same (HV.out _))
          | (go_at_call 29; refine Calls.quiet_of_same (quotOf_any yu v _ (by omega) (by omega) (by omega))))
        rw [FE.out]
        have O3 : Hid (Bs (w2.drewN nq).heap.size (w2.drewN nq) u6 (trim M)) := HO.out
        have G3 : Hid (Bs (w2.drewN nq).heap.size (w2.drewN nq) u7 G) := HG.out
        have B3 := hid_of (below_drewN nq HB.out)
        have x3 : (w2.drewN nq).cell? ⟨b, off + k, none⟩ = some (.int .u8 x) := hx
        clear HO HG HB HV hx hy
        generalize w2.drewN nq = w3 at *
        go_wp2_with fail
        refine (shifted_any _ G 0 f _ G3.out (by omega) (by omega) hf).mono ?_
        rintro e w4 ⟨v4, rfl, hO4, hB4⟩
        have B4 := hid_of (B3.out.trans (hB4.mono B3.out.size))
        have O4 := hid_of ((O3.out.below hB4).mono hB4.size)
        have G4 := hid_of ((G3.out.below hB4).mono hB4.size)
        have S4 := hid_of hO4.bs
        clear hO4 hB4 G3 O3 B3 x3
        go_wp2_with fail
        refine (plusOf_any _ _ (trim M) (shl G 0 f) _ O4.out S4.out).mono ?_
        rintro e w5 ⟨v5, rfl, hO5, hB5⟩
        rw [mo.out f] at hO5
        have B5 := hid_of (B4.out.trans (hB5.mono B4.out.size))
        have G5 := hid_of ((G4.out.below hB5).mono hB5.size)
        have O5 := hid_of hO5.bs
        clear hO5 hB5 G4 O4 B4 S4
        have xk := (B5.out.cell (p := ⟨b, off + k, none⟩) hb)
        have B6 := hid_of (B5.out.alloc B5.out.size (.cells #[.int .u8 (x : Nat), .int .u8 1] 5))
        have L6 := hid_of (bs_lit2 (w := w5) x hx2)
        have C6 := hid_of ((Below.refl w5.heap.size w5).alloc (Nat.le_refl _) (.cells #[.int .u8 (x : Nat), .int .u8 1] 5))
        have G6 := hid_of ((G5.out.below C6.out).mono C6.out.size)
        have O6 := hid_of ((O5.out.below C6.out).mono C6.out.size)
        have xk2 : w5.cell? ⟨b, off + k, none⟩ = some (.int .u8 x) := xk.trans XC.out
        clear xk C6 G5 O5
        go_wp2_with fail
        refine (timesOf_any _ _ G [x, 1] _ G6.out (L6.out.mono (by simp)) (by omega) (by simp)).mono ?_
        rintro e w7 ⟨v7, rfl, hO7, hB7⟩
        have B7 := hid_of (B6.out.trans (hB7.mono B6.out.size))
        have O7 := hid_of ((O6.out.below hB7).mono hB7.size)
        have G7 := hid_of hO7.bs
        clear hO7 hB7 G6 O6 B6 B5 L6
        go_wp2_with fail
        go_roundw
        case rel => exact ⟨k + 1, _, _, by omega, by go_num, HST, O7, G7, B7⟩
        case measure => simp [intOf]; omega
    · have hke : k = xs.length := by omega
      subst hke
      go_wp2_with fail
      go_ret2
      rw [HS.out]
      exact ⟨⟨_, rfl, HO.out⟩, HB.out⟩
end Go.Proofs.Ytlccdceeppfleaa
