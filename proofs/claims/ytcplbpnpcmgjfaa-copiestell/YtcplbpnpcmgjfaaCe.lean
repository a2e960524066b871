/- The reference's CopyCheck, StoredOf, MergedOf. -/
import Derived.Test.YtcplbpnpcmgjfaaCm
import Derived.Test.YtcplbpnpcmgjfaaSe
namespace Go.Proofs.Ytcplbpnpcmgjfaa
open Go.ChangeShapes Go.WideShapes Go.ChangeAt Go.RowKit Go.Shelf
set_option maxHeartbeats 400000 in
theorem rccheck_any (c : Cp) (w : World) : Calls Try.prog 26 #[cv c] w fun e w' => e = .returned (.int .i64 (cck c)) ∧ Below w.heap.size w w' := by
  obtain ⟨⟨t, u⟩, s⟩ := c
  have HN : Hid (cv ((t, u), s) = .agg #[.int .i64 t, .int .i64 u, .string s]) := rfl
  rw [HN.out]
  have HE : Hid (cck ((t, u), s) = if sck (t, u) = 0 then (if 64 < s.size then 2 else 0) else sck (t, u)) := rfl
  have B0 := hid_of (below_new w (.cells #[.int .i64 t, .int .i64 u, .string s] 37))
  have X0 := hid_of (heap_new w (.cells #[.int .i64 t, .int .i64 u, .string s] 37))
  go_enter Try.func26, Try.ntmps26
  go_wp2_with fail
  refine (rcheckB t u _).mono ?_
  rintro e w1 ⟨rfl, h1⟩
  have X1 := hid_of ((h1.block _ (heap_lt X0.out)).trans X0.out)
  have B1 := hid_of (B0.out.trans (h1.mono B0.out.size))
  clear h1 B0 X0
  rcases sck_or (t, u) with ec | ec
  · rw [ec] at HE ⊢
    clear ec
    obtain ⟨z0, z1, z2⟩ := cells3 X1.out
    by_cases c : 64 < s.size
    · have c' : (64 : Int) < s.size := by omega
      have HE2 : Hid (cck ((t, u), s) = 2) := hid_of (by rw [HE.out, if_pos rfl, if_pos c])
      clear c HE
      go_wp2_with fail
      go_ret
      exact ⟨ret_int HE2.out.symm, B1.out⟩
    · have c' : ¬ (64 : Int) < s.size := by omega
      have HE2 : Hid (cck ((t, u), s) = 0) := hid_of (by rw [HE.out, if_pos rfl, if_neg c])
      clear c HE
      go_wp2_with fail
      go_ret
      exact ⟨ret_int HE2.out.symm, B1.out⟩
  · rw [ec] at HE ⊢
    clear ec
    go_wp2_with fail
    go_ret
    exact ⟨ret_int (by rw [HE.out]; rfl), B1.out⟩
theorem rcck_at (t u : Int) (s : ByteArray) (w : World) : Calls Try.prog 26 #[.agg #[.int .i64 t, .int .i64 u, .string s]] w fun e w' => e = .returned (.int .i64 (cck ((t, u), s))) ∧ Below w.heap.size w w' := rccheck_any ((t, u), s) w
set_option maxRecDepth 100000 in
set_option maxHeartbeats 1000000 in
theorem rstored_any (a b : Cp) (w : World) : Calls Try.prog 21 #[cv a, cv b] w fun e w' => e = .returned (.tuple #[cv (soV a b), .int .i64 (soE a b)]) ∧ Below w.heap.size w w' := by
  have HS : Hid (soE a b = if cck a = 0 then (if cck b = 0 then 0 else cck b) else cck a) := rfl
  obtain ⟨⟨t, u⟩, s⟩ := a
  obtain ⟨⟨t', u'⟩, s'⟩ := b
  have HN : Hid (∀ t u s, cv ((t, u), s) = .agg #[.int .i64 t, .int .i64 u, .string s]) := fun _ _ _ => rfl
  rw [HN.out, HN.out]
  have HV : Hid (soV ((t, u), s) ((t', u'), s') = if soE ((t, u), s) ((t', u'), s') = 0 then (if slt (t, u) (t', u') = true then ((t', u'), s') else ((t, u), s)) else cz) := rfl
  obtain ⟨W, hW, BB, X0, X1, X2, -⟩ := new3 w (.cells #[.int .i64 t, .int .i64 u, .string s] 37) (.cells #[.int .i64 t', .int .i64 u', .string s'] 37) (.cells #[.int .i64 0, .int .i64 0, .string ⟨#[]⟩] 37)
  obtain ⟨x0, x1, x2⟩ := cells3 X0
  obtain ⟨y0, y1, y2⟩ := cells3 X1
  replace X0 := hid_of (show Bc W _ ((t, u), s) from X0)
  replace X1 := hid_of (show Bc W _ ((t', u'), s') from X1)
  replace X2 := hid_of (show Bc W _ cz from X2)
  replace BB := hid_of BB
  have LL : Hid (w.heap.size ≤ w.heap.size + 1 + 1) := hid_of (by omega)
  go_enter Try.func21, Try.ntmps21
  go_wp2_with fail
  clear hW x0 x1 x2 y0 y1 y2
  generalize w.heap.size + 1 + 1 = g2 at *
  generalize w.heap.size + 1 = g1 at *
  refine (rcck_at _ _ _ _).mono ?_
  rintro e w1 ⟨rfl, h1⟩
  replace BB := hid_of (BB.out.trans (h1.mono BB.out.size))
  replace X0 := hid_of (X0.out.below h1 X0.out.lt)
  replace X1 := hid_of (X1.out.below h1 X1.out.lt)
  replace X2 := hid_of (X2.out.below h1 X2.out.lt)
  clear h1
  obtain ⟨q, hq⟩ : ∃ q, cck ((t, u), s) = q := ⟨_, rfl⟩
  rw [hq] at HS ⊢
  clear hq
  by_cases c : q = 0
  · subst c
    rw [if_pos rfl] at HS
    obtain ⟨y0, y1, y2⟩ := X1.out.cells
    go_wp2_with fail
    refine (rcck_at _ _ _ _).mono ?_
    rintro e w2 ⟨rfl, h1⟩
    replace BB := hid_of (BB.out.trans (h1.mono BB.out.size))
    replace X0 := hid_of (X0.out.below h1 X0.out.lt)
    replace X1 := hid_of (X1.out.below h1 X1.out.lt)
    replace X2 := hid_of (X2.out.below h1 X2.out.lt)
    clear h1 y0 y1 y2
    obtain ⟨q, hq⟩ : ∃ q, cck ((t', u'), s') = q := ⟨_, rfl⟩
    rw [hq] at HS ⊢
    clear hq
    by_cases c : q = 0
    · subst c
      rw [if_pos rfl] at HS
      rw [HS.out, if_pos rfl] at HV
      obtain ⟨x0, x1, x2⟩ := X0.out.cells
      obtain ⟨y0, y1, y2⟩ := X1.out.cells
      go_wp2_with fail
      refine (rlessB _ _ _ _ _).mono ?_
      rintro e w3 ⟨rfl, h1⟩
      replace BB := hid_of (BB.out.trans (h1.mono BB.out.size))
      replace X0 := hid_of (X0.out.below h1 X0.out.lt)
      replace X1 := hid_of (X1.out.below h1 X1.out.lt)
      replace X2 := hid_of (X2.out.below h1 X2.out.lt)
      clear h1 x0 x1 x2 y0 y1 y2
      cases hs : slt (t, u) (t', u')
      · rw [hs, if_neg (by decide)] at HV
        clear hs
        obtain ⟨x0, x1, x2⟩ := X0.out.cells
        obtain ⟨f1, f2, f3, f4, f5, f6, f7⟩ := X2.out.all t u s
        go_wp2_with fail
        obtain ⟨z0, z1, z2⟩ := (X2.out.put ((t, u), s)).cells
        refine bodyPost_ret (v := .tuple #[.agg #[.int .i64 t, .int .i64 u, .string s], .int .i64 0]) (by simp [results, Try.results21, go_sem, z0, z1, z2]) rfl ⟨?_, below_putC BB.out LL.out _⟩
        rw [HV.out, HS.out]
        rfl
      · rw [hs, if_pos rfl] at HV
        clear hs
        obtain ⟨x0, x1, x2⟩ := X1.out.cells
        obtain ⟨f1, f2, f3, f4, f5, f6, f7⟩ := X2.out.all t' u' s'
        go_wp2_with fail
        obtain ⟨z0, z1, z2⟩ := (X2.out.put ((t', u'), s')).cells
        refine bodyPost_ret (v := .tuple #[.agg #[.int .i64 t', .int .i64 u', .string s'], .int .i64 0]) (by simp [results, Try.results21, go_sem, z0, z1, z2]) rfl ⟨?_, below_putC BB.out LL.out _⟩
        rw [HV.out, HS.out]
        rfl
    · have tq : (q != 0) = true := bne_iff_ne.2 c
      rw [if_neg c] at HS
      rw [HS.out, if_neg c] at HV
      obtain ⟨f1, f2, f3, f4, f5, f6, f7⟩ := X2.out.all 0 0 ⟨#[]⟩
      clear c
      go_wp2_with fail
      obtain ⟨z0, z1, z2⟩ := (X2.out.put cz).cells
      refine bodyPost_ret (v := .tuple #[.agg #[.int .i64 0, .int .i64 0, .string ⟨#[]⟩], .int .i64 q]) (by simp [results, Try.results21, go_sem]; first | done | simp [cz] at z0 z1 z2 ⊢; simp [z0, z1, z2]) rfl ⟨?_, below_putC BB.out LL.out _⟩
      rw [HV.out, HS.out]
      rfl
  · have tq : (q != 0) = true := bne_iff_ne.2 c
    have tq2 : (q == 0) = false := beq_eq_false_iff_ne.2 c
    rw [if_neg c] at HS
    rw [HS.out, if_neg c] at HV
    obtain ⟨f1, f2, f3, f4, f5, f6, f7⟩ := X2.out.all 0 0 ⟨#[]⟩
    clear c
    go_wp2_with fail
    obtain ⟨z0, z1, z2⟩ := (X2.out.put cz).cells
    refine bodyPost_ret (v := .tuple #[.agg #[.int .i64 0, .int .i64 0, .string ⟨#[]⟩], .int .i64 q]) (by simp [results, Try.results21, go_sem]; first | done | simp [cz] at z0 z1 z2 ⊢; simp [z0, z1, z2]) rfl ⟨?_, below_putC BB.out LL.out _⟩
    rw [HV.out, HS.out]
    rfl
set_option maxRecDepth 100000 in
set_option maxHeartbeats 2000000 in
theorem rmerged_any (v : Value) (L : List Cp) (w : World) (hL : Cs w.heap.size w v L) : Calls Try.prog 22 #[v] w fun e w' => e = .returned (.tuple #[cv (mgV L), .int .i64 (clE L)]) ∧ Below w.heap.size w w' := by
  have HL := hid_of hL
  have hmx : Try.prog.follows Departure.mixedOrders = true := by kernel_rfl
  obtain ⟨l2, ao, cap, rfl, lc, _⟩ := hL
  have HV : Hid (mgV L = if clE L = 0 then lats L else cz) := rfl
  obtain ⟨W, hW, BB, X2, -⟩ := new1 w (.cells #[.int .i64 0, .int .i64 0, .string ⟨#[]⟩] 37)
  replace X2 := hid_of (show Bc W _ cz from X2)
  replace BB := hid_of BB
  by_cases c12 : 12 < L.length
  · have HE : Hid (clE L = 2) := hid_of (if_pos c12)
    rw [HE.out, if_neg (by decide)] at HV
    have c' : (12 : Int) < L.length := by omega
    obtain ⟨f1, f2, f3, f4, f5, f6, f7⟩ := X2.out.all 0 0 ⟨#[]⟩
    go_enter Try.func22, Try.ntmps22
    go_wp2_with fail
    obtain ⟨z0, z1, z2⟩ := (X2.out.put cz).cells
    refine bodyPost_ret (v := .tuple #[.agg #[.int .i64 0, .int .i64 0, .string ⟨#[]⟩], .int .i64 2]) (by simp [results, Try.results22, go_sem]; first | done | simp [cz] at z0 z1 z2 ⊢; simp [z0, z1, z2]) rfl ⟨?_, below_putC BB.out (Nat.le_refl _) _⟩
    rw [HV.out, HE.out]
    rfl
  · have HE : Hid (clE L = cks L) := hid_of (if_neg c12)
    have l12 : L.length ≤ 12 := by omega
    have c' : ¬ (12 : Int) < L.length := by omega
    rw [HE.out] at HV
    go_enter Try.func22, Try.ntmps22
    go_wp2_with fail
    clear hW c'
    go_loopw [4] (fun i w' => ∃ k : Nat, k ≤ L.length ∧ i = .int .i64 k ∧ Hid (∀ j, j < k → cck (L[j]?.getD cz) = 0) ∧ Hid (Below w.heap.size w w' ∧ Bc w' w.heap.size cz)) (fun i _ => L.length - (intOf i).toNat)
    case atStart => exact ⟨0, by omega, rfl, fun j hj => by omega, ⟨BB.out, X2.out⟩⟩
    case round =>
      clear BB X2
      obtain ⟨k, hk, rfl, HT, HW⟩ := hrel
      by_cases hlt : k < L.length
      · obtain ⟨b, off, rfl, _, hx, hy, hz⟩ := (HL.out.below HW.out.1).at hlt
        have tl : (k : Int) < L.length := by omega
        have HX := hid_of (cks_at L k hlt HT.out)
        obtain ⟨⟨⟨x, y⟩, z⟩, hxe⟩ : ∃ p, L[k]?.getD cz = p := ⟨_, rfl⟩
        have HP := hid_of hxe
        rw [hxe] at hx hy hz HX
        clear hxe
        go_wp2_with fail
        refine (rcck_at x y z _).mono ?_
        rintro e w1 ⟨rfl, h1⟩
        have G1 := hid_of (show Below w.heap.size w w1 from HW.out.1.trans (h1.mono HW.out.1.size))
        have R1 := hid_of (HW.out.2.below h1 HW.out.2.lt)
        clear h1 hx hy hz HW
        by_cases ec : cck ((x, y), z) = 0
        · have HT2 : Hid (∀ j, j < k + 1 → cck (L[j]?.getD cz) = 0) := hid_of (fun j hj => by
            by_cases hjk : j = k
            · rw [hjk, HP.out]; exact ec
            · exact HT.out j (by omega))
          rw [ec]
          clear ec HX HP
          go_wp2_with fail
          go_roundw
          case rel => exact ⟨k + 1, by omega, by go_num, HT2, ⟨G1.out, R1.out⟩⟩
          case measure => simp [intOf]; omega
        · have HK := hid_of (HX.out ec)
          have t1 : (cck ((x, y), z) != 0) = true := bne_iff_ne.2 ec
          rw [HK.out, if_neg ec] at HV
          generalize cck ((x, y), z) = q at *
          obtain ⟨f1, f2, f3, f4, f5, f6, f7⟩ := R1.out.all 0 0 ⟨#[]⟩
          clear ec HX HP HT
          go_wp2_with fail
          obtain ⟨z0, z1, z2⟩ := (R1.out.put cz).cells
          refine bodyPost_ret (v := .tuple #[.agg #[.int .i64 0, .int .i64 0, .string ⟨#[]⟩], .int .i64 q]) (by simp [results, Try.results22, go_sem]; first | done | simp [cz] at z0 z1 z2 ⊢; simp [z0, z1, z2]) rfl ⟨?_, below_putC G1.out (Nat.le_refl _) _⟩
          rw [HV.out, HE.out, HK.out]
          rfl
      · have HK := hid_of (cks_all L (fun j hj => HT.out j (by omega)))
        have tl : ¬ (k : Int) < L.length := by omega
        rw [HK.out, if_pos rfl] at HV
        rw [HK.out] at HE
        clear HT HK hk hlt
        go_wp2_with fail
        clear tl
        go_loopw [6] (fun i w' => ∃ k : Nat, k ≤ L.length ∧ i = .int .i64 k ∧ Hid (∀ j, j < k → abv L j L.length = true) ∧ Hid (Below w.heap.size w w' ∧ Bc w' w.heap.size cz)) (fun i _ => L.length - (intOf i).toNat)
        case atStart => exact ⟨0, by omega, rfl, fun j hj => by omega, HW⟩
        case round =>
          clear HW
          obtain ⟨n, hk, rfl, HT, HW⟩ := hrel
          by_cases hlt : n < L.length
          · have tl : (n : Int) < L.length := by omega
            go_wp2_with fail
            go_loopw [7, 8] (fun a i w' => ∃ k : Nat, k ≤ L.length ∧ a = .bool (abv L n k) ∧ i = .int .i64 k ∧ Hid (Below w.heap.size w w' ∧ Bc w' w.heap.size cz)) (fun _ i _ => L.length - (intOf i).toNat)
            case atStart => exact ⟨0, by omega, rfl, rfl, HW⟩
            case round =>
              clear HW
              obtain ⟨m, hm, rfl, rfl, HW⟩ := hrel
              by_cases hlm : m < L.length
              · have tm : (m : Int) < L.length := by omega
                have HS : Hid (abv L n (m + 1) = (abv L n m || slt (L[n]?.getD cz).1 (L[m]?.getD cz).1)) := rfl
                obtain ⟨b, off, rfl, hb, hx, hy, hz⟩ := (HL.out.below HW.out.1).at hlt
                obtain ⟨b', off', eb, _, hx', hy', hz'⟩ := (HL.out.below HW.out.1).at hlm
                cases eb
                obtain ⟨⟨⟨x, y⟩, z⟩, hxe⟩ : ∃ p, L[n]?.getD cz = p := ⟨_, rfl⟩
                rw [hxe] at hx hy hz HS
                clear hxe
                obtain ⟨⟨⟨x', y'⟩, z'⟩, hxe⟩ : ∃ p, L[m]?.getD cz = p := ⟨_, rfl⟩
                rw [hxe] at hx' hy' hz' HS
                clear hxe
                have HC : Hid (∀ w', Below wr.heap.size wr w' → w'.cell? ⟨b, off + n * 3, none⟩ = some (.int .i64 x) ∧ w'.cell? ⟨b, off + n * 3 + 1, none⟩ = some (.int .i64 y)) := hid_of (fun w' hw' => ⟨(hw'.cell (p := ⟨b, off + n * 3, none⟩) (cell_lt hx)).trans hx, (hw'.cell (p := ⟨b, off + n * 3 + 1, none⟩) (cell_lt hy)).trans hy⟩)
                have HD : Hid (∀ w', Below wr.heap.size wr w' → w'.cell? ⟨b, off + m * 3, none⟩ = some (.int .i64 x') ∧ w'.cell? ⟨b, off + m * 3 + 1, none⟩ = some (.int .i64 y')) := hid_of (fun w' hw' => ⟨(hw'.cell (p := ⟨b, off + m * 3, none⟩) (cell_lt hx')).trans hx', (hw'.cell (p := ⟨b, off + m * 3 + 1, none⟩) (cell_lt hy')).trans hy'⟩)
                clear hx hy hz hx' hy' hz'
                cases ha : abv L n m
                · rw [ha, Bool.false_or] at HS
                  clear ha
                  go_wp2_with fail
                  refine wp_region_quiet (C := fun w' => Below wr.heap.size wr w') hmx (by kernel_rfl) ((Below.refl _ _).drew) ?_
                  refine QW.out ?_
                  repeat
                    refine qw_step (fun K hK => ?_)
                    go_simp
                    first
                      | (refine ⟨_, fun w' hw' => rfl, hK _ ?_⟩; clear hK K)
                      | (refine ⟨_, fun w' hw' => (by simp only [HC.out w' hw', Result.andThen]; first | exact ⟨rfl, rfl⟩ | exact ⟨trivial, rfl⟩ | rfl), hK _ ?_⟩; clear hK K)
                      | (refine ⟨_, fun w' hw' => (by simp only [HD.out w' hw', Result.andThen]; first | exact ⟨rfl, rfl⟩ | exact ⟨trivial, rfl⟩ | rfl), hK _ ?_⟩; clear hK K)
                      | (refine ⟨_, fun w' hw' => (rlessB x y x' y' _).mono (by rintro e w2 ⟨rfl, hB⟩; exact ⟨rfl, hw'.trans (hB.mono hw'.size)⟩), hK _ ?_⟩; clear hK K)
                      | (refine hK _ ?_; clear hK K)
                  refine qw_nil ?_
                  intro wq hq
                  have G2 := hid_of (show Below w.heap.size w wq ∧ Bc wq w.heap.size cz from ⟨HW.out.1.trans (hq.mono HW.out.1.size), HW.out.2.below hq HW.out.2.lt⟩)
                  clear hq
                  go_wp2_with fail
                  exact ⟨⟨m + 1, by omega, by rw [HS.out], by go_num, G2⟩, by simp [intOf]; omega⟩
                · replace HS : Hid (abv L n (m + 1) = true) := hid_of (by rw [HS.out, ha]; rfl)
                  clear ha
                  go_wp2_with fail
                  refine wp_region_quiet (C := fun w' => Below wr.heap.size wr w') hmx (by kernel_rfl) ((Below.refl _ _).drew) ?_
                  refine QW.out ?_
                  repeat
                    refine qw_step (fun K hK => ?_)
                    go_simp
                    first
                      | (refine ⟨_, fun w' hw' => rfl, hK _ ?_⟩; clear hK K)
                      | (refine ⟨_, fun w' hw' => (by simp only [HC.out w' hw', Result.andThen]; first | exact ⟨rfl, rfl⟩ | exact ⟨trivial, rfl⟩ | rfl), hK _ ?_⟩; clear hK K)
                      | (refine ⟨_, fun w' hw' => (by simp only [HD.out w' hw', Result.andThen]; first | exact ⟨rfl, rfl⟩ | exact ⟨trivial, rfl⟩ | rfl), hK _ ?_⟩; clear hK K)
                      | (refine ⟨_, fun w' hw' => (rlessB x y x' y' _).mono (by rintro e w2 ⟨rfl, hB⟩; exact ⟨rfl, hw'.trans (hB.mono hw'.size)⟩), hK _ ?_⟩; clear hK K)
                      | (refine hK _ ?_; clear hK K)
                  refine qw_nil ?_
                  intro wq hq
                  have G2 := hid_of (show Below w.heap.size w wq ∧ Bc wq w.heap.size cz from ⟨HW.out.1.trans (hq.mono HW.out.1.size), HW.out.2.below hq HW.out.2.lt⟩)
                  clear hq
                  go_wp2_with fail
                  exact ⟨⟨m + 1, by omega, by rw [HS.out], by go_num, G2⟩, by simp [intOf]; omega⟩
              · have tm : ¬ (m : Int) < L.length := by omega
                obtain rfl : m = L.length := by omega
                cases ha : abv L n L.length
                · replace HV : Hid (mgV L = L[n]?.getD cz) := hid_of (HV.out.trans (lats_first hlt HT.out ha))
                  obtain ⟨b, off, rfl, hb, hx, hy, hz⟩ := (HL.out.below HW.out.1).at hlt
                  obtain ⟨⟨⟨x, y⟩, z⟩, hxe⟩ : ∃ p, L[n]?.getD cz = p := ⟨_, rfl⟩
                  rw [hxe] at hx hy hz HV
                  clear hxe ha
                  obtain ⟨f1, f2, f3, f4, f5, f6, f7⟩ := HW.out.2.all x y z
                  go_wp2_with fail
                  obtain ⟨z0, z1, z2⟩ := (HW.out.2.put ((x, y), z)).cells
                  refine bodyPost_ret (v := .tuple #[.agg #[.int .i64 x, .int .i64 y, .string z], .int .i64 0]) (by simp [results, Try.results22, go_sem, z0, z1, z2]) rfl ⟨?_, below_putC HW.out.1 (Nat.le_refl _) _⟩
                  rw [HV.out, HE.out]
                  rfl
                · have HT2 : Hid (∀ j, j < n + 1 → abv L j L.length = true) := hid_of (fun j hj => by
                    by_cases hjk : j = n
                    · rw [hjk]; exact ha
                    · exact HT.out j (by omega))
                  clear ha
                  go_wp2_with fail
                  exact ⟨⟨n + 1, by omega, by go_num, HT2, HW⟩, by simp [intOf]; omega⟩
          · have tl : ¬ (n : Int) < L.length := by omega
            replace HV : Hid (mgV L = cz) := hid_of (by
              by_cases h0 : 0 < L.length
              · exact absurd (lats_some h0 (fun m hm => HT.out m (by omega))) (by simp)
              · rw [HV.out, List.eq_nil_of_length_eq_zero (l := L) (by omega)]; rfl)
            clear HT
            obtain ⟨f1, f2, f3, f4, f5, f6, f7⟩ := HW.out.2.all 0 0 ⟨#[]⟩
            go_wp2_with fail
            obtain ⟨z0, z1, z2⟩ := (HW.out.2.put cz).cells
            refine bodyPost_ret (v := .tuple #[.agg #[.int .i64 0, .int .i64 0, .string ⟨#[]⟩], .int .i64 0]) (by simp [results, Try.results22, go_sem]; first | done | simp [cz] at z0 z1 z2 ⊢; simp [z0, z1, z2]) rfl ⟨?_, below_putC HW.out.1 (Nat.le_refl _) _⟩
            rw [HV.out, HE.out]
            rfl
end Go.Proofs.Ytcplbpnpcmgjfaa
