/- What the reference's RowsOf answers, and Rows of what it does not take. -/
import Derived.Test.YtjpibfnkchbglaaMChk
import Derived.Test.YtjpibfnkchbglaaRws2
namespace Go.Proofs.Ytjpibfnkchbglaa
open Go.ChangeShapes Go.WideShapes Go.ChangeAt Go.RowKit Go.Shelf
set_option maxRecDepth 100000 in
set_option maxHeartbeats 4000000 in
theorem rowsOf_e (va vi : Value) (A : List (List Nat)) (L : List Int) (E : Nat) (w : World) (hA : Mx w.heap.size w va A) (hL : Is w.heap.size w vi L) (h0 : E ≠ 0) (hE : chk A = E ∨ (chk A = 0 ∧ 16 < L.length ∧ E = 2) ∨ (chk A = 0 ∧ L.length = 0 ∧ E = 1)) :
    Calls Try.prog 24 #[va, vi] w fun e w' => e = .returned (.tuple #[.slice none 0 0, .int .i64 (E : Nat)]) ∧ Below w.heap.size w w' := by
  have HA := hid_of hA
  obtain ⟨b, cb, hvb⟩ := hL.shape
  subst hvb
  have hl := hL.1
  have zE : ((E : Int) == 0) = false := by rw [beq_eq_false_iff_ne]; omega
  have zN : ((E : Int) != 0) = true := by rw [bne_iff_ne]; omega
  clear hA hL
  rcases hE with hE | ⟨hE, h16, rfl⟩ | ⟨hE, h16, rfl⟩
  · have HE := hid_of hE
    clear hE
    go_enter Try.func24, Try.ntmps24
    go_wp2_with fail
    refine (mcheck_any _ A _ HA.out).mono ?_
    rintro e w1 ⟨rfl, hB⟩
    rw [HE.out]
    have BB := hid_of hB
    clear hB
    go_wp2_with fail
    go_loopw [6, 7, 8] (fun e v i w' => e = .int .i64 (E : Nat) ∧ i = .int .i64 0 ∧ w' = w1) (fun _ _ _ _ => 0)
    case atStart => exact ⟨rfl, rfl, rfl⟩
    case round =>
      obtain ⟨rfl, rfl, hw⟩ := hrel
      subst hw
      by_cases c : 0 < L.length
      · have t1 : decide ((0 : Int) < (L.length : Int)) = true := decide_eq_true (by omega)
        go_wp2_with fail
        go_ret2
        exact ⟨rfl, BB.out⟩
      · have t1 : decide ((0 : Int) < (L.length : Int)) = false := decide_eq_false (by omega)
        go_wp2_with fail
        go_ret2
        exact ⟨rfl, BB.out⟩
  · have HE := hid_of hE
    have t0 : decide ((16 : Int) < (L.length : Int)) = true := decide_eq_true (by omega)
    have t1 : decide ((0 : Int) < (L.length : Int)) = true := decide_eq_true (by omega)
    clear hE
    go_enter Try.func24, Try.ntmps24
    go_wp2_with fail
    refine (mcheck_any _ A _ HA.out).mono ?_
    rintro e w1 ⟨rfl, hB⟩
    rw [HE.out]
    have BB := hid_of hB
    clear hB
    go_wp2_with fail
    go_loopw [6, 7, 8] (fun e v i w' => e = .int .i64 2 ∧ i = .int .i64 0 ∧ w' = w1) (fun _ _ _ _ => 0)
    case atStart => exact ⟨rfl, rfl, rfl⟩
    case round =>
      obtain ⟨rfl, rfl, hw⟩ := hrel
      subst hw
      go_wp2_with fail
      go_ret2
      exact ⟨rfl, BB.out⟩
  · have HE := hid_of hE
    rw [h16]
    clear hE
    go_enter Try.func24, Try.ntmps24
    go_wp2_with fail
    refine (mcheck_any _ A _ HA.out).mono ?_
    rintro e w1 ⟨rfl, hB⟩
    rw [HE.out]
    have BB := hid_of hB
    clear hB
    go_wp2_with fail
    go_loopw [6, 7, 8] (fun e v i w' => e = .int .i64 1 ∧ i = .int .i64 0 ∧ w' = w1) (fun _ _ _ _ => 0)
    case atStart => exact ⟨rfl, rfl, rfl⟩
    case round =>
      obtain ⟨rfl, rfl, hw⟩ := hrel
      subst hw
      go_wp2_with fail
      go_ret2
      exact ⟨rfl, BB.out⟩
/-- what Rows says of places -/
def RoEnd (A : List (List Nat)) (L : List Int) (n c : Nat) (e : Ending) (w' : World) : Prop :=
  if L.any (bad n) then e = .returned (.tuple #[.slice none 0 0, .int .i64 3]) else ∃ v, e = .returned (.tuple #[v, .int .i64 0]) ∧ Mx w'.heap.size w' v (tab L.length c (rwf A L))
theorem RoEnd.bad {A : List (List Nat)} {L : List Int} {n c : Nat} (h : L.any (Ytjpibfnkchbglaa.bad n) = true) (w' : World) : RoEnd A L n c (.returned (.tuple #[.slice none 0 0, .int .i64 3])) w' := by unfold RoEnd; rw [h]; rfl
theorem RoEnd.good {A : List (List Nat)} {L : List Int} {n c : Nat} (h : L.any (Ytjpibfnkchbglaa.bad n) = false) {v : Value} {w' : World} (hM : Mx w'.heap.size w' v (tab L.length c (rwf A L))) : RoEnd A L n c (.returned (.tuple #[v, .int .i64 0])) w' := by unfold RoEnd; rw [h]; exact ⟨v, rfl, hM⟩
theorem rl_row {A : List (List Nat)} {n c i : Nat} (rA : Rect A n c) (hi : i < n) : rl c (ent A i) = A[i]?.getD [] := by
  have hr := rA.row i hi
  apply List.ext_getElem
  · rw [rl_len, hr]
  · intro k h1 h2
    simp only [rl, List.getElem_map, List.getElem_range, ent]
    rw [List.getElem?_eq_getElem h2]
    rfl
set_option maxRecDepth 100000 in
set_option maxHeartbeats 8000000 in
theorem rowsOf_ok (va vi : Value) (A : List (List Nat)) (L : List Int) (n c : Nat) (w : World) (hA : Mx w.heap.size w va A) (hL : Is w.heap.size w vi L) (rA : Rect A n c) (l1 : 1 ≤ L.length) (l16 : L.length ≤ 16) :
    Calls Try.prog 24 #[va, vi] w fun e w' => RoEnd A L n c e w' ∧ Below w.heap.size w w' := by
  have HA := hid_of hA
  have HL := hid_of hL
  have HE := hid_of (rect_chk rA)
  have RA := hid_of rA
  have n16 := rA.n16
  have c16 := rA.c16
  obtain ⟨a, ca, hva⟩ := hA.shape
  rw [rA.len] at hva
  subst hva
  obtain ⟨b, cb, hvb⟩ := hL.shape
  subst hvb
  have t0 : decide ((16 : Int) < (L.length : Int)) = false := decide_eq_false (by omega)
  have t1 : ((L.length : Int) == 0) = false := by rw [beq_eq_false_iff_ne]; omega
  obtain ⟨j0, gi, gz0, gz1, gz2⟩ := info_parts info39
  clear hA hL rA
  go_enter Try.func24, Try.ntmps24
  go_wp2_with fail
  refine (mcheck_any _ A _ HA.out).mono ?_
  rintro e w1 ⟨rfl, hB⟩
  rw [HE.out]
  have BB := hid_of hB
  clear hB
  go_wp2_with fail
  go_loopw [6, 7, 8] (fun e v i w' => ∃ k : Nat, k ≤ L.length ∧ i = .int .i64 k ∧ Hid (Below w.heap.size w w') ∧ ((e = .int .i64 0 ∧ Hid ((L.take k).any (bad n) = false) ∧ Hid (Mo w.heap.size w' v (tab k c (rwf A L)))) ∨ (e = .int .i64 3 ∧ Hid (L.any (bad n) = true)))) (fun _ _ i _ => L.length - (intOf i).toNat)
  case atStart => exact ⟨0, by omega, rfl, BB, .inl ⟨rfl, rfl, Mo.nil _ _⟩⟩
  case round =>
    obtain ⟨k, hk, rfl, HB, hc⟩ := hrel
    rcases hc with ⟨rfl, HT, HM⟩ | ⟨rfl, HT⟩
    · by_cases hlt : k < L.length
      · have t2 : decide ((k : Int) < (L.length : Int)) = true := decide_eq_true (by omega)
        obtain ⟨b1, o1, rfl, hx⟩ := (HL.out.below HB.out).at hlt
        have ht := any_take (n := n) hlt
        rw [HT.out, Bool.false_or] at ht
        have hsn := tab_succ k c (rwf A L)
        have hrw : rwf A L k = ent A (L[k]?.getD 0).toNat := rfl
        obtain ⟨x, hxe⟩ : ∃ x, L[k]?.getD 0 = x := ⟨_, rfl⟩
        rw [hxe] at hx ht hrw
        obtain ⟨va', vc', hvs⟩ := HM.out.shape
        rw [tab_len] at hvs
        subst hvs
        by_cases hx0 : x < 0
        · have d1 : decide (x < 0) = true := decide_eq_true hx0
          have HBad : Hid (L.any (bad n) = true) := hid_of (any_of_take (k := k + 1) (by rw [ht]; unfold bad; rw [d1]; rfl))
          clear ht hsn hrw hxe
          go_wp2_with fail
          go_roundw
          case rel => exact ⟨k + 1, by omega, by go_num, HB, .inr ⟨rfl, HBad⟩⟩
          case measure => simp [intOf]; omega
        · have d1 : decide (x < 0) = false := decide_eq_false hx0
          by_cases hxn : (n : Int) ≤ x
          · have d2 : decide ((n : Int) ≤ x) = true := decide_eq_true hxn
            have HBad : Hid (L.any (bad n) = true) := hid_of (any_of_take (k := k + 1) (by rw [ht]; unfold bad; rw [d1, d2]; rfl))
            clear ht hsn hrw hxe
            go_wp2_with fail
            go_roundw
            case rel => exact ⟨k + 1, by omega, by go_num, HB, .inr ⟨rfl, HBad⟩⟩
            case measure => simp [intOf]; omega
          · have d2 : decide ((n : Int) ≤ x) = false := decide_eq_false hxn
            obtain ⟨m, rfl⟩ := Int.eq_ofNat_of_zero_le (show 0 ≤ x by omega)
            have hmn : m < n := by omega
            have HG : Hid ((L.take (k + 1)).any (bad n) = false) := hid_of (by rw [ht]; unfold bad; rw [d1, d2]; rfl)
            rw [Int.toNat_natCast] at hrw
            rw [hrw, rl_row RA.out hmn] at hsn
            obtain ⟨b2, o2, r2, k2, rfl, hy, hy2⟩ := (HA.out.below HB.out).at (j := m) (by rw [RA.out.len]; exact hmn)
            rw [RA.out.row m hmn] at hy
            have hRo := RowOk.arg hy2 HB.out.size
            rw [RA.out.row m hmn] at hRo
            have hBl := (Below.refl wr.heap.size wr).alloc (Nat.le_refl _) (.cells #[.slice r2 c k2] 39)
            have HRo := hid_of (hRo.below hBl)
            have HMA := hid_of (HM.out.below hBl)
            have HBA := hid_of (HB.out.alloc HB.out.size (.cells #[.slice r2 c k2] 39))
            obtain ⟨cells, p1, p2⟩ := HMA.out
            have O1 := hid_of p1
            have O2 := hid_of p2
            have HSn := hid_of hsn
            have q1 : (m : Int) < (n : Int) := by omega
            clear ht hsn hrw hxe hy2 hRo hBl p1 p2
            go_wp2_with (at_builtin; refine wpList_append_own _ rfl _ _ 22 rfl w.heap.size 39 j0 (.slice none 0 0) 1 24 und22 gi gz0 gz1 gz2 rfl (by decide) _ k cells rfl (by have h := O1.out; rw [tab_len] at h; exact h) ⟨wr.heap.size, 0, none⟩ 1 1 [.slice r2 c k2] rfl rfl (fun j u hj => by exact news_row wr _ j u hj) (by simp [Value.oneCell']) (by unfold maxLen; omega) (by omega) (by have := HB.out.size; simp; omega) ?_; intro v' w3 hown hgrow hnil)
            go_roundw
            case rel =>
              refine ⟨k + 1, by omega, by go_num, HBA.out.grown hgrow (by have := HB.out.size; simp; omega) (fun k e => (O1.out.lt k e).1), .inl ⟨rfl, HG, ?_⟩⟩
              rw [HSn.out]
              exact mo_snoc O1.out O2.out HRo.out (by rw [tab_len]; exact hown) hgrow
            case measure => simp [intOf]; omega
      · have hke : k = L.length := by omega
        have t2 : decide ((k : Int) < (L.length : Int)) = false := decide_eq_false (by omega)
        have HG : Hid (L.any (bad n) = false) := hid_of (by have := HT.out; rw [List.take_of_length_le (by omega)] at this; exact this)
        have HX : Hid (Mx wr.heap.size wr u7 (tab L.length c (rwf A L))) := hid_of (by rw [← hke]; exact HM.out.mx (by rw [tab_len]; omega))
        clear hke
        go_wp2_with fail
        go_ret2
        exact ⟨RoEnd.good HG.out HX.out, HB.out⟩
    · by_cases hlt : k < L.length
      · have t2 : decide ((k : Int) < (L.length : Int)) = true := decide_eq_true (by omega)
        go_wp2_with fail
        go_ret2
        exact ⟨RoEnd.bad HT.out _, HB.out⟩
      · have t2 : decide ((k : Int) < (L.length : Int)) = false := decide_eq_false (by omega)
        go_wp2_with fail
        go_ret2
        exact ⟨RoEnd.bad HT.out _, HB.out⟩
end Go.Proofs.Ytjpibfnkchbglaa
