/- Lists of copies; check, checkList, later. -/
import Derived.Test.YtcplbpnpcmgjfaaCa
namespace Go.Proofs.Ytcplbpnpcmgjfaa
open Go.ChangeShapes Go.WideShapes Go.ChangeAt Go.RowKit Go.Shelf
/-- The slice value v holds the copies L; n: all its memory lies below block n. -/
def Cs (n : Nat) (w : World) (v : Value) (L : List Cp) : Prop :=
  L.length ≤ 4398046510976 ∧ ∃ ao cap, v = .slice ao L.length cap ∧ L.length ≤ cap ∧
    (L = [] ∨ ∃ b off, ao = some ⟨b, off, none⟩ ∧ b < n ∧ ∀ j, j < L.length → w.cell? ⟨b, off + j * 3, none⟩ = some (.int .i64 (L[j]?.getD cz).1.1) ∧ w.cell? ⟨b, off + j * 3 + 1, none⟩ = some (.int .i64 (L[j]?.getD cz).1.2) ∧ w.cell? ⟨b, off + j * 3 + 2, none⟩ = some (.string (L[j]?.getD cz).2))
theorem Cs.below {n : Nat} {w w' : World} {v : Value} {L : List Cp} (h : Cs n w v L) (hb : Below n w w') : Cs n w' v L := by
  obtain ⟨h2, ao, cap, h3, h4, h6⟩ := h
  refine ⟨h2, ao, cap, h3, h4, ?_⟩
  rcases h6 with h6 | ⟨b, off, h7, h8, h9⟩
  · exact .inl h6
  · exact .inr ⟨b, off, h7, h8, fun j hj => ⟨(hb.cell (p := ⟨b, off + j * 3, none⟩) h8).trans (h9 j hj).1, (hb.cell (p := ⟨b, off + j * 3 + 1, none⟩) h8).trans (h9 j hj).2.1, (hb.cell (p := ⟨b, off + j * 3 + 2, none⟩) h8).trans (h9 j hj).2.2⟩⟩
theorem Cs.mono {n m : Nat} {w : World} {v : Value} {L : List Cp} (h : Cs n w v L) (hm : n ≤ m) : Cs m w v L := by
  obtain ⟨h2, ao, cap, h3, h4, h6⟩ := h
  refine ⟨h2, ao, cap, h3, h4, ?_⟩
  rcases h6 with h6 | ⟨b, off, h7, h8, h9⟩
  · exact .inl h6
  · exact .inr ⟨b, off, h7, by omega, h9⟩
theorem Cs.shape {n : Nat} {w : World} {v : Value} {L : List Cp} (h : Cs n w v L) : ∃ a c, v = .slice a L.length c := by
  obtain ⟨_, a, c, h, _⟩ := h
  exact ⟨a, c, h⟩
theorem Cs.at {n l c : Nat} {w : World} {a : Option Addr} {L : List Cp} (h : Cs n w (.slice a l c) L) {j : Nat} (hj : j < L.length) : ∃ b off, a = some ⟨b, off, none⟩ ∧ b < n ∧ w.cell? ⟨b, off + j * 3, none⟩ = some (.int .i64 (L[j]?.getD cz).1.1) ∧ w.cell? ⟨b, off + j * 3 + 1, none⟩ = some (.int .i64 (L[j]?.getD cz).1.2) ∧ w.cell? ⟨b, off + j * 3 + 2, none⟩ = some (.string (L[j]?.getD cz).2) := by
  obtain ⟨_, a', c', h, _, h6⟩ := h
  injection h with h _ _
  subst h
  rcases h6 with h | ⟨b, off, e, hn, hc⟩
  · rw [h] at hj; simp at hj
  · exact ⟨b, off, e, hn, hc j hj⟩
theorem Cs.nil (n : Nat) (w : World) : Cs n w (.slice none 0 0) [] := ⟨by simp, none, 0, rfl, by simp, .inl rfl⟩
/-- the first error of copies -/
def cks : List Cp → Int
  | [] => 0
  | c :: L => if cck c = 0 then cks L else cck c
theorem cks_all : ∀ (L : List Cp), (∀ k, k < L.length → cck (L[k]?.getD cz) = 0) → cks L = 0
  | [], _ => rfl
  | c :: L, h => by
    have h0 : cck c = 0 := h 0 (by simp)
    show (if cck c = 0 then cks L else cck c) = 0
    rw [if_pos h0]
    exact cks_all L fun k hk => by simpa using h (k + 1) (by simpa using hk)
theorem cks_at : ∀ (L : List Cp) (k : Nat), k < L.length → (∀ j, j < k → cck (L[j]?.getD cz) = 0) → cck (L[k]?.getD cz) ≠ 0 → cks L = cck (L[k]?.getD cz)
  | [], k, h, _, _ => by simp at h
  | c :: L, 0, _, _, h => if_neg h
  | c :: L, k + 1, hk, h, hn => by
    have h0 : cck c = 0 := h 0 (by omega)
    show (if cck c = 0 then cks L else cck c) = _
    rw [if_pos h0]
    exact cks_at L k (by simpa using hk) (fun j hj => by simpa using h (j + 1) (by omega)) hn
theorem cks_zero : ∀ (L : List Cp), cks L = 0 → ∀ c ∈ L, cck c = 0
  | [], _, c, hc => by simp at hc
  | d :: L, h, c, hc => by
    by_cases h0 : cck d = 0
    · rcases List.mem_cons.1 hc with rfl | hc
      · exact h0
      · exact cks_zero L (by rw [← h]; exact (if_pos h0).symm) c hc
    · exact absurd ((if_neg h0 : cks (d :: L) = cck d).symm.trans h) h0
theorem cks_of (L : List Cp) (h : ∀ c ∈ L, cck c = 0) : cks L = 0 :=
  cks_all L fun k hk => h _ (by rw [List.getElem?_eq_getElem hk]; exact List.getElem_mem hk)
theorem cks_or : ∀ (L : List Cp), cks L = 0 ∨ cks L = 2 ∨ cks L = 3
  | [] => .inl rfl
  | c :: L => by
    by_cases h : cck c = 0
    · rw [show cks (c :: L) = cks L from if_pos h]; exact cks_or L
    · rw [show cks (c :: L) = cck c from if_neg h]; exact cck_or c
/-- checkList's error -/
def clE (L : List Cp) : Int := if 12 < L.length then 2 else cks L
theorem clE_or (L : List Cp) : clE L = 0 ∨ clE L = 2 ∨ clE L = 3 := by
  unfold clE
  split
  · exact .inr (.inl rfl)
  · exact cks_or L
theorem clE_zero {L : List Cp} (h : clE L = 0) : L.length ≤ 12 ∧ ∀ c ∈ L, cck c = 0 := by
  unfold clE at h
  split at h
  · omega
  · exact ⟨by omega, cks_zero L h⟩
theorem clE_of {L : List Cp} (h1 : L.length ≤ 12) (h2 : ∀ c ∈ L, cck c = 0) : clE L = 0 := by
  unfold clE
  rw [if_neg (by omega)]
  exact cks_of L h2
theorem cck_at (t u : Int) (s : ByteArray) (w : World) : Calls Try.prog 25 #[.agg #[.int .i64 t, .int .i64 u, .string s]] w fun e w' => e = .returned (.int .i64 (cck ((t, u), s))) ∧ Below w.heap.size w w' := ccheck_any ((t, u), s) w
set_option maxRecDepth 100000 in
set_option maxHeartbeats 1000000 in
theorem checks_any (v : Value) (L : List Cp) (w : World) (hL : Cs w.heap.size w v L) :
    Calls Try.prog 28 #[v] w fun e w' => e = .returned (.int .i64 (cks L)) ∧ Below w.heap.size w w' := by
  have HL := hid_of hL
  obtain ⟨l2, ao, cap, rfl, _⟩ := hL
  go_enter Try.func28, Try.ntmps28
  go_wp2_with fail
  go_loopw [8] (fun i w' => ∃ k : Nat, k ≤ L.length ∧ i = .int .i64 k ∧ Hid (∀ j, j < k → cck (L[j]?.getD cz) = 0) ∧ Hid (Below w.heap.size w w')) (fun i _ => L.length - (intOf i).toNat)
  case atStart => exact ⟨0, by omega, rfl, fun j hj => by omega, Below.refl _ _⟩
  case round =>
    obtain ⟨k, hk, rfl, HT, HW⟩ := hrel
    by_cases hlt : k < L.length
    · obtain ⟨b, off, rfl, _, hx, hy, hz⟩ := (HL.out.below HW.out).at hlt
      have HX := hid_of (cks_at L k hlt HT.out)
      obtain ⟨⟨⟨x, y⟩, z⟩, hxe⟩ : ∃ p, L[k]?.getD cz = p := ⟨_, rfl⟩
      have HP := hid_of hxe
      rw [hxe] at hx hy hz HX
      clear hxe
      have B1 := hid_of (below_new wr (.cells #[.int .i64 x, .int .i64 y, .string z] 37))
      go_wp2_with fail
      refine (cck_at x y z _).mono ?_
      rintro e w1 ⟨rfl, h1⟩
      have G1 := hid_of (show Below w.heap.size w w1 from HW.out.trans ((B1.out.trans (h1.mono B1.out.size)).mono HW.out.size))
      clear h1 hx hy hz B1 HW
      by_cases ec : cck ((x, y), z) = 0
      · have HT2 : Hid (∀ j, j < k + 1 → cck (L[j]?.getD cz) = 0) := hid_of (fun j hj => by
          by_cases hjk : j = k
          · rw [hjk, HP.out]; exact ec
          · exact HT.out j (by omega))
        rw [ec]
        clear ec HX HP
        go_wp2_with fail
        go_roundw
        case rel => exact ⟨k + 1, by omega, by go_num, HT2, G1⟩
        case measure => simp [intOf]; omega
      · have HE := hid_of (HX.out ec)
        have t1 : (cck ((x, y), z) != 0) = true := bne_iff_ne.2 ec
        generalize cck ((x, y), z) = q at *
        clear ec HX HP HT
        go_wp2_with fail
        go_ret
        exact ⟨ret_int HE.out.symm, G1.out⟩
    · have HE := hid_of (cks_all L (fun j hj => HT.out j (by omega)))
      go_wp2_with fail
      go_ret
      exact ⟨ret_int HE.out.symm, HW.out⟩
theorem checkList_any (v : Value) (L : List Cp) (w : World) (hL : Cs w.heap.size w v L) :
    Calls Try.prog 30 #[v] w fun e w' => e = .returned (.int .i64 (clE L)) ∧ Below w.heap.size w w' := by
  have HL := hid_of hL
  obtain ⟨l2, ao, cap, rfl, _⟩ := hL
  by_cases c : 12 < L.length
  · have HE : Hid (clE L = 2) := hid_of (if_pos c)
    have c' : (12 : Int) < L.length := by omega
    go_enter Try.func30, Try.ntmps30
    go_wp2_with fail
    go_ret
    exact ⟨ret_int HE.out.symm, Below.refl _ _⟩
  · have HE : Hid (clE L = cks L) := hid_of (if_neg c)
    have c' : ¬ (12 : Int) < L.length := by omega
    go_enter Try.func30, Try.ntmps30
    go_wp2_with fail
    refine (checks_any _ L _ HL.out).mono ?_
    rintro e w1 ⟨rfl, h1⟩
    have G1 := hid_of h1
    clear h1
    generalize cks L = q at *
    go_wp2_with fail
    go_ret
    exact ⟨ret_int HE.out.symm, G1.out⟩
/-- that of both whose stamp is greater -/
def ltr (a b : Cp) : Cp := if slt a.1 b.1 = true then b else a
theorem results_cp {w : World} {b : Nat} {c : Cp} (h : Bc w b c) : (loadVar 37 ⟨b, 0, none⟩).run Try.prog w = .ok (cv c) w := by
  obtain ⟨z0, z1, z2⟩ := h.cells
  simp [go_sem, z0, z1, z2, cv]
set_option maxRecDepth 100000 in
set_option maxHeartbeats 1000000 in
theorem later_any (a b : Cp) (w : World) : Calls Try.prog 29 #[cv a, cv b] w fun e w' => e = .returned (cv (ltr a b)) ∧ Below w.heap.size w w' := by
  obtain ⟨⟨t, u⟩, s⟩ := a
  obtain ⟨⟨t', u'⟩, s'⟩ := b
  have HN : Hid (∀ t u s, cv ((t, u), s) = .agg #[.int .i64 t, .int .i64 u, .string s]) := fun _ _ _ => rfl
  rw [HN.out, HN.out]
  have HE : Hid (ltr ((t, u), s) ((t', u'), s') = if slt (t, u) (t', u') = true then ((t', u'), s') else ((t, u), s)) := rfl
  go_enter Try.func29, Try.ntmps29
  go_wp2_with fail
  obtain ⟨W, hW, BB, X0, X1, X2, _⟩ := new3 w (.cells #[.int .i64 t, .int .i64 u, .string s] 37) (.cells #[.int .i64 t', .int .i64 u', .string s'] 37) (.cells #[.int .i64 0, .int .i64 0, .string ⟨#[]⟩] 37)
  rw [hW]
  clear hW
  replace X0 := hid_of (show Bc W _ ((t, u), s) from X0)
  replace X1 := hid_of (show Bc W _ ((t', u'), s') from X1)
  replace X2 := hid_of (show Bc W _ cz from X2)
  replace BB := hid_of BB
  have LL : Hid (w.heap.size ≤ w.heap.size + 1 + 1) := hid_of (by omega)
  generalize w.heap.size + 1 + 1 = g2 at *
  generalize w.heap.size + 1 = g1 at *
  refine (lessS_at t u t' u' _).mono ?_
  rintro e w1 ⟨rfl, h1⟩
  replace X0 := hid_of (X0.out.below h1 X0.out.lt)
  replace X1 := hid_of (X1.out.below h1 X1.out.lt)
  replace X2 := hid_of (X2.out.below h1 X2.out.lt)
  replace BB := hid_of (BB.out.trans (h1.mono BB.out.size))
  clear h1
  obtain ⟨x0, x1, x2⟩ := X0.out.cells
  obtain ⟨y0, y1, y2⟩ := X1.out.cells
  cases hs : slt (t, u) (t', u')
  · have HE2 : Hid (ltr ((t, u), s) ((t', u'), s') = ((t, u), s)) := hid_of (by rw [HE.out, hs]; rfl)
    clear hs HE
    obtain ⟨f1, f2, f3, f4, f5, f6, f7⟩ := X2.out.all t u s
    go_wp2_with fail
    obtain ⟨z0, z1, z2⟩ := (X2.out.put ((t, u), s)).cells
    refine bodyPost_ret (v := .agg #[.int .i64 t, .int .i64 u, .string s]) (by simp [results, Try.results29, go_sem, z0, z1, z2]) rfl ⟨?_, below_putC BB.out LL.out _⟩
    rw [HE2.out]
    rfl
  · have HE2 : Hid (ltr ((t, u), s) ((t', u'), s') = ((t', u'), s')) := hid_of (by rw [HE.out, hs]; rfl)
    clear hs HE
    obtain ⟨f1, f2, f3, f4, f5, f6, f7⟩ := X2.out.all t' u' s'
    go_wp2_with fail
    obtain ⟨z0, z1, z2⟩ := (X2.out.put ((t', u'), s')).cells
    refine bodyPost_ret (v := .agg #[.int .i64 t', .int .i64 u', .string s']) (by simp [results, Try.results29, go_sem, z0, z1, z2]) rfl ⟨?_, below_putC BB.out LL.out _⟩
    rw [HE2.out]
    rfl
end Go.Proofs.Ytcplbpnpcmgjfaa
