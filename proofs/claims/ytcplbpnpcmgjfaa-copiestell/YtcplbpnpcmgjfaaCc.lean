/- latest, Store, Merge. -/
import Derived.Test.YtcplbpnpcmgjfaaCb
namespace Go.Proofs.Ytcplbpnpcmgjfaa
open Go.ChangeShapes Go.WideShapes Go.ChangeAt Go.RowKit Go.Shelf
theorem later_at (t u : Int) (s : ByteArray) (t' u' : Int) (s' : ByteArray) (w : World) : Calls Try.prog 29 #[.agg #[.int .i64 t, .int .i64 u, .string s], .agg #[.int .i64 t', .int .i64 u', .string s']] w fun e w' => e = .returned (.agg #[.int .i64 (ltr ((t, u), s) ((t', u'), s')).1.1, .int .i64 (ltr ((t, u), s) ((t', u'), s')).1.2, .string (ltr ((t, u), s) ((t', u'), s')).2]) ∧ Below w.heap.size w w' := later_any ((t, u), s) ((t', u'), s') w
/-- the latest of the first k of copies -/
def latK (L : List Cp) (k : Nat) : Cp := ((L.take k).drop 1).foldl ltr (L[0]?.getD cz)
/-- the latest of copies -/
def lats (L : List Cp) : Cp := latK L L.length
theorem latK_one (L : List Cp) : latK L 1 = L[0]?.getD cz := by
  unfold latK
  rw [List.drop_take]
  simp
theorem latK_step {L : List Cp} {k : Nat} (h1 : 1 ≤ k) (hk : k < L.length) : latK L (k + 1) = ltr (latK L k) (L[k]?.getD cz) := by
  unfold latK
  rw [List.take_succ_eq_append_getElem hk, List.drop_append, List.foldl_append, List.getElem?_eq_getElem hk]
  have : 1 - (List.take k L).length = 0 := by rw [List.length_take]; omega
  rw [this]
  rfl
theorem lats_nil : lats [] = cz := rfl
set_option maxRecDepth 100000 in
set_option maxHeartbeats 1000000 in
theorem latest_any (v : Value) (L : List Cp) (w : World) (hL : Cs w.heap.size w v L) :
    Calls Try.prog 31 #[v] w fun e w' => e = .returned (.agg #[.int .i64 (lats L).1.1, .int .i64 (lats L).1.2, .string (lats L).2]) ∧ Below w.heap.size w w' := by
  have HL := hid_of hL
  obtain ⟨l2, ao, cap, rfl, lc, _⟩ := hL
  by_cases c0 : L.length = 0
  · have e0 : L = [] := List.eq_nil_of_length_eq_zero c0
    subst e0
    go_enter Try.func31, Try.ntmps31
    go_wp2_with fail
    exact bodyPost_ret (v := .agg #[.int .i64 0, .int .i64 0, .string ⟨#[]⟩]) (by simp [results, Try.results31, go_sem]) rfl ⟨rfl, below_new _ _⟩
  · have h0 : 0 < L.length := by omega
    obtain ⟨b, off, rfl, hbn, hx, hy, hz⟩ := HL.out.at h0
    have H1 := hid_of (latK_one L)
    obtain ⟨⟨⟨x, y⟩, z⟩, hxe⟩ : ∃ p, L[0]?.getD cz = p := ⟨_, rfl⟩
    rw [hxe] at hx hy hz H1
    clear hxe
    obtain ⟨W, hW, BB, X0, X1, -⟩ := new2 w (.cells #[.int .i64 0, .int .i64 0, .string ⟨#[]⟩] 37) (.cells #[.int .i64 x, .int .i64 y, .string z] 37)
    rw [Nat.zero_mul, Nat.add_zero] at hx hy hz
    have bn := below_new w (.cells #[.int .i64 0, .int .i64 0, .string ⟨#[]⟩] 37)
    replace hx := (bn.cell (p := ⟨b, off, none⟩) hbn).trans hx
    replace hy := (bn.cell (p := ⟨b, off + 1, none⟩) hbn).trans hy
    replace hz := (bn.cell (p := ⟨b, off + 2, none⟩) hbn).trans hz
    clear bn
    have t0 : ((L.length : Int) == 0) = false := beq_eq_false_iff_ne.2 (by omega)
    by_cases hc1 : cap = 1
    · subst hc1
      have hl1 : L.length = 1 := by omega
      have HR : Hid (lats L = ((x, y), z)) := hid_of (by unfold lats; rw [hl1]; exact H1.out)
      rw [hl1]
      clear HL c0 h0 t0 lc l2 hl1
      go_enter Try.func31, Try.ntmps31
      go_wp2_with fail
      go_loopw [16] (fun i w' => i = .int .i64 0 ∧ w' = W) (fun i _ => 0)
      case atStart => exact ⟨rfl, rfl⟩
      case round =>
        obtain ⟨rfl, rfl⟩ := hrel
        replace X0 := hid_of (show Bc wr _ cz from X0)
        replace X1 := hid_of (show Bc wr _ ((x, y), z) from X1)
        replace BB := hid_of BB
        clear hx hy hz hW hbn
        obtain ⟨y0, y1, y2⟩ := X1.out.cells
        obtain ⟨f1, f2, f3, f4, f5, f6, f7⟩ := X0.out.all x y z
        go_wp2_with fail
        obtain ⟨z0, z1, z2⟩ := (X0.out.put ((x, y), z)).cells
        refine bodyPost_ret (v := .agg #[.int .i64 x, .int .i64 y, .string z]) (by simp [results, Try.results31, go_sem, z0, z1, z2]) rfl ⟨?_, below_putC BB.out (Nat.le_refl _) _⟩
        rw [HR.out]
    · have hc2 : ¬ (cap : Int) = 1 := by omega
      go_enter Try.func31, Try.ntmps31
      go_wp2_with fail
      replace X0 := hid_of (show Bc W _ cz from X0)
      replace X1 := hid_of (show Bc W _ ((x, y), z) from X1)
      replace BB := hid_of BB
      have LL : Hid (w.heap.size < w.heap.size + 1) := hid_of (by omega)
      generalize w.heap.size + 1 = g at *
      clear hx hy hz hW hbn
      go_loopw [16] (fun i w' => ∃ k : Nat, k < L.length ∧ i = .int .i64 k ∧ Hid (Below w.heap.size w w' ∧ Bc w' w.heap.size cz ∧ Bc w' g (latK L (k + 1)))) (fun i _ => L.length - (intOf i).toNat)
      case atStart => exact ⟨0, by omega, rfl, ⟨BB.out, X0.out, by rw [H1.out]; exact X1.out⟩⟩
      case round =>
        clear BB X0 X1
        obtain ⟨k, hk, rfl, HW⟩ := hrel
        by_cases hlt : k + 1 < L.length
        · obtain ⟨b', off', e, hbn, hx, hy, hz⟩ := (HL.out.below HW.out.1).at hlt
          cases e
          have HS := hid_of (latK_step (L := L) (k := k + 1) (by omega) hlt)
          obtain ⟨⟨⟨p, q⟩, r⟩, hxe⟩ : ∃ p, L[k + 1]?.getD cz = p := ⟨_, rfl⟩
          rw [hxe] at hx hy hz HS
          clear hxe
          rw [show off + (k + 1) * 3 = off + 3 + k * 3 by omega] at hx hy hz
          have tl : (k : Int) < (L.length : Int) - 1 := by omega
          obtain ⟨V, hV, BV, XV, -⟩ := new1 wr (.cells #[.int .i64 p, .int .i64 q, .string r] 37)
          obtain ⟨⟨⟨m, n⟩, o⟩, hm⟩ : ∃ p, latK L (k + 1) = p := ⟨_, rfl⟩
          rw [hm] at HW HS
          clear hm
          have M1 := hid_of (HW.out.2.2.below BV HW.out.2.2.lt)
          have R1 := hid_of (HW.out.2.1.below BV HW.out.2.1.lt)
          have G1 := hid_of (HW.out.1.trans (BV.mono HW.out.1.size))
          obtain ⟨m0, m1, m2⟩ := M1.out.cells
          obtain ⟨v0, v1, v2⟩ := cells3 XV
          replace BV := hid_of BV
          go_wp2_with fail
          refine (later_at _ _ _ _ _ _ _).mono ?_
          rintro e w2 ⟨rfl, h2⟩
          replace G1 := hid_of (G1.out.trans (h2.mono G1.out.size))
          replace R1 := hid_of (R1.out.below h2 R1.out.lt)
          replace M1 := hid_of (M1.out.below h2 M1.out.lt)
          clear h2 hV XV v0 v1 v2 m0 m1 m2 hx hy hz BV HW
          obtain ⟨⟨⟨i, j⟩, l⟩, hl⟩ : ∃ c, ltr ((m, n), o) ((p, q), r) = c := ⟨_, rfl⟩
          rw [hl] at HS ⊢
          clear hl
          obtain ⟨f1, f2, f3, f4, f5, f6, f7⟩ := M1.out.all i j l
          have G2 := hid_of (below_putC G1.out (b := g) (by have := LL.out; omega) ((i, j), l))
          have R2 := hid_of (R1.out.other (c := g) (by have := LL.out; omega) ((i, j), l))
          have M2 := hid_of (M1.out.put ((i, j), l))
          clear G1 R1
          go_wp2_with fail
          go_roundw
          case rel => exact ⟨k + 1, by omega, by go_num, ⟨G2.out, R2.out, by rw [HS.out]; exact M2.out⟩⟩
          case measure => simp [intOf]; omega
        · have tl : ¬ (k : Int) < (L.length : Int) - 1 := by omega
          have HR : Hid (lats L = latK L (k + 1)) := hid_of (by unfold lats; rw [show L.length = k + 1 by omega])
          obtain ⟨⟨⟨m, n⟩, o⟩, hm⟩ : ∃ p, latK L (k + 1) = p := ⟨_, rfl⟩
          rw [hm] at HW HR
          clear hm
          obtain ⟨m0, m1, m2⟩ := HW.out.2.2.cells
          obtain ⟨f1, f2, f3, f4, f5, f6, f7⟩ := HW.out.2.1.all m n o
          go_wp2_with fail
          obtain ⟨z0, z1, z2⟩ := (HW.out.2.1.put ((m, n), o)).cells
          refine bodyPost_ret (v := .agg #[.int .i64 m, .int .i64 n, .string o]) (by simp [results, Try.results31, go_sem, z0, z1, z2]) rfl ⟨?_, below_putC HW.out.1 (Nat.le_refl _) _⟩
          rw [HR.out]
/-- Store's error and answer -/
def soE (c d : Cp) : Int := cks [c, d]
def soV (c d : Cp) : Cp := if soE c d = 0 then ltr c d else cz
/-- Merge's answer (its error: clE) -/
def mgV (L : List Cp) : Cp := if clE L = 0 then lats L else cz
theorem row_cs2 {W : World} {g : Nat} {a b : Cp} (h : W.heap[g]? = some (.cells #[.int .i64 a.1.1, .int .i64 a.1.2, .string a.2, .int .i64 b.1.1, .int .i64 b.1.2, .string b.2] 37)) : Cs W.heap.size W (.slice (some ⟨g, 0, none⟩) 2 2) [a, b] := by
  refine ⟨by simp, _, 2, rfl, by simp, .inr ⟨g, 0, rfl, heap_lt h, fun j hj => ?_⟩⟩
  simp only [List.length_cons, List.length_nil] at hj
  simp only [World.cell?, h]
  match j, hj with
  | 0, _ => exact ⟨rfl, rfl, rfl⟩
  | 1, _ => exact ⟨rfl, rfl, rfl⟩
set_option maxRecDepth 100000 in
set_option maxHeartbeats 1000000 in
theorem store_any (a b : Cp) (w : World) : Calls Try.prog 18 #[cv a, cv b] w fun e w' => e = .returned (.tuple #[cv (soV a b), .int .i64 (soE a b)]) ∧ Below w.heap.size w w' := by
  obtain ⟨⟨t, u⟩, s⟩ := a
  obtain ⟨⟨t', u'⟩, s'⟩ := b
  have HN : Hid (∀ t u s, cv ((t, u), s) = .agg #[.int .i64 t, .int .i64 u, .string s]) := fun _ _ _ => rfl
  rw [HN.out, HN.out]
  have HV : Hid (soV ((t, u), s) ((t', u'), s') = if soE ((t, u), s) ((t', u'), s') = 0 then ltr ((t, u), s) ((t', u'), s') else cz) := rfl
  have HE : Hid (cks [((t, u), s), ((t', u'), s')] = soE ((t, u), s) ((t', u'), s')) := rfl
  obtain ⟨W, hW, BB, X0, X1, X2, -⟩ := new3 w (.cells #[.int .i64 t, .int .i64 u, .string s] 37) (.cells #[.int .i64 t', .int .i64 u', .string s'] 37) (.cells #[.int .i64 0, .int .i64 0, .string ⟨#[]⟩] 37)
  obtain ⟨V, hV, BV, XV, -⟩ := new1 W (.cells #[.int .i64 t, .int .i64 u, .string s, .int .i64 t', .int .i64 u', .string s'] 37)
  obtain ⟨x0, x1, x2⟩ := cells3 X0
  obtain ⟨y0, y1, y2⟩ := cells3 X1
  replace X0 := hid_of (show Bc W _ ((t, u), s) from X0)
  replace X1 := hid_of (show Bc W _ ((t', u'), s') from X1)
  replace X2 := hid_of (show Bc W _ cz from X2)
  replace BB := hid_of BB
  replace BV := hid_of BV
  replace XV := hid_of XV
  have LL : Hid (w.heap.size ≤ w.heap.size + 1 + 1) := hid_of (by omega)
  go_enter Try.func18, Try.ntmps18
  go_wp2_with fail
  clear hW hV x0 x1 x2 y0 y1 y2
  generalize w.heap.size + 1 + 1 = g2 at *
  generalize w.heap.size + 1 = g1 at *
  refine (checks_any _ _ _ (row_cs2 (a := ((t, u), s)) (b := ((t', u'), s')) XV.out)).mono ?_
  rintro e w1 ⟨rfl, h1⟩
  replace h1 := BV.out.trans (h1.mono BV.out.size)
  replace BB := hid_of (BB.out.trans (h1.mono BB.out.size))
  replace X0 := hid_of (X0.out.below h1 X0.out.lt)
  replace X1 := hid_of (X1.out.below h1 X1.out.lt)
  replace X2 := hid_of (X2.out.below h1 X2.out.lt)
  clear h1 BV XV
  rw [HE.out]
  clear HE
  obtain ⟨q, hq⟩ : ∃ q, soE ((t, u), s) ((t', u'), s') = q := ⟨_, rfl⟩
  have HE := hid_of hq
  rw [hq] at HV ⊢
  clear hq
  by_cases c : q = 0
  · subst c
    obtain ⟨x0, x1, x2⟩ := X0.out.cells
    obtain ⟨y0, y1, y2⟩ := X1.out.cells
    replace HV : Hid (soV ((t, u), s) ((t', u'), s') = ltr ((t, u), s) ((t', u'), s')) := hid_of (HV.out.trans (if_pos rfl))
    go_wp2_with fail
    refine (later_at _ _ _ _ _ _ _).mono ?_
    rintro e w2 ⟨rfl, h2⟩
    replace BB := hid_of (BB.out.trans (h2.mono BB.out.size))
    replace X2 := hid_of (X2.out.below h2 X2.out.lt)
    clear h2 x0 x1 x2 y0 y1 y2 X0 X1
    obtain ⟨⟨⟨i, j⟩, l⟩, hl⟩ : ∃ c, ltr ((t, u), s) ((t', u'), s') = c := ⟨_, rfl⟩
    rw [hl] at HV ⊢
    clear hl
    obtain ⟨f1, f2, f3, f4, f5, f6, f7⟩ := X2.out.all i j l
    go_wp2_with fail
    obtain ⟨z0, z1, z2⟩ := (X2.out.put ((i, j), l)).cells
    refine bodyPost_ret (v := .tuple #[.agg #[.int .i64 i, .int .i64 j, .string l], .int .i64 0]) (by simp [results, Try.results18, go_sem, z0, z1, z2]) rfl ⟨?_, below_putC BB.out LL.out _⟩
    rw [HV.out, HE.out]
    rfl
  · have tq : (q != 0) = true := bne_iff_ne.2 c
    replace HV : Hid (soV ((t, u), s) ((t', u'), s') = cz) := hid_of (HV.out.trans (if_neg c))
    obtain ⟨f1, f2, f3, f4, f5, f6, f7⟩ := X2.out.all 0 0 ⟨#[]⟩
    clear c
    go_wp2_with fail
    obtain ⟨z0, z1, z2⟩ := (X2.out.put cz).cells
    refine bodyPost_ret (v := .tuple #[.agg #[.int .i64 0, .int .i64 0, .string ⟨#[]⟩], .int .i64 q]) (by simp [results, Try.results18, go_sem]; first | done | simp [cz] at z0 z1 z2 ⊢; simp [z0, z1, z2]) rfl ⟨?_, below_putC BB.out LL.out _⟩
    rw [HV.out, HE.out]
    rfl
set_option maxRecDepth 100000 in
set_option maxHeartbeats 1000000 in
theorem merge_any (v : Value) (L : List Cp) (w : World) (hL : Cs w.heap.size w v L) : Calls Try.prog 19 #[v] w fun e w' => e = .returned (.tuple #[cv (mgV L), .int .i64 (clE L)]) ∧ Below w.heap.size w w' := by
  have HL := hid_of hL
  obtain ⟨l2, ao, cap, rfl, lc, _⟩ := hL
  have HV : Hid (mgV L = if clE L = 0 then lats L else cz) := rfl
  obtain ⟨W, hW, BB, X2, -⟩ := new1 w (.cells #[.int .i64 0, .int .i64 0, .string ⟨#[]⟩] 37)
  replace X2 := hid_of (show Bc W _ cz from X2)
  replace BB := hid_of BB
  go_enter Try.func19, Try.ntmps19
  go_wp2_with fail
  refine (checkList_any _ L _ ((HL.out.below BB.out).mono BB.out.size)).mono ?_
  rintro e w1 ⟨rfl, h1⟩
  replace BB := hid_of (BB.out.trans (h1.mono BB.out.size))
  replace X2 := hid_of (X2.out.below h1 X2.out.lt)
  clear h1 hW
  obtain ⟨q, hq⟩ : ∃ q, clE L = q := ⟨_, rfl⟩
  have HE := hid_of hq
  rw [hq] at HV ⊢
  clear hq
  by_cases c : q = 0
  · subst c
    replace HV : Hid (mgV L = lats L) := hid_of (HV.out.trans (if_pos rfl))
    go_wp2_with fail
    refine (latest_any _ L _ ((HL.out.below BB.out).mono BB.out.size)).mono ?_
    rintro e w2 ⟨rfl, h2⟩
    replace BB := hid_of (BB.out.trans (h2.mono BB.out.size))
    replace X2 := hid_of (X2.out.below h2 X2.out.lt)
    clear h2
    obtain ⟨⟨⟨i, j⟩, l⟩, hl⟩ : ∃ c, lats L = c := ⟨_, rfl⟩
    rw [hl] at HV ⊢
    clear hl
    obtain ⟨f1, f2, f3, f4, f5, f6, f7⟩ := X2.out.all i j l
    go_wp2_with fail
    obtain ⟨z0, z1, z2⟩ := (X2.out.put ((i, j), l)).cells
    refine bodyPost_ret (v := .tuple #[.agg #[.int .i64 i, .int .i64 j, .string l], .int .i64 0]) (by simp [results, Try.results19, go_sem, z0, z1, z2]) rfl ⟨?_, below_putC BB.out (Nat.le_refl _) _⟩
    rw [HV.out, HE.out]
    rfl
  · have tq : (q != 0) = true := bne_iff_ne.2 c
    replace HV : Hid (mgV L = cz) := hid_of (HV.out.trans (if_neg c))
    obtain ⟨f1, f2, f3, f4, f5, f6, f7⟩ := X2.out.all 0 0 ⟨#[]⟩
    clear c
    go_wp2_with fail
    obtain ⟨z0, z1, z2⟩ := (X2.out.put cz).cells
    refine bodyPost_ret (v := .tuple #[.agg #[.int .i64 0, .int .i64 0, .string ⟨#[]⟩], .int .i64 q]) (by simp [results, Try.results19, go_sem]; first | done | simp [cz] at z0 z1 z2 ⊢; simp [z0, z1, z2]) rfl ⟨?_, below_putC BB.out (Nat.le_refl _) _⟩
    rw [HV.out, HE.out]
    rfl
end Go.Proofs.Ytcplbpnpcmgjfaa
