/- What matrix.isSize, unitAt and Unit answer, and the function that Mul hands to fill. -/
import Derived.Test.YtjpibfnkchbglabMx
namespace Go.Proofs.Ytjpibfnkchbglab
open Go.ChangeShapes Go.WideShapes Go.ChangeAt Go.RowKit Go.Shelf
theorem size_yes (n : Nat) (w : World) (h1 : 1 ≤ n) (h2 : n ≤ 16) : Calls Try.prog 27 #[.int .i64 (n : Nat)] w fun e w' => e = .returned (.bool true) ∧ w' = w := by
  have z1 : decide ((1 : Int) ≤ (n : Int)) = true := decide_eq_true (by omega)
  have z2 : decide ((n : Int) ≤ (16 : Int)) = true := decide_eq_true (by omega)
  go_enter Try.func27, Try.ntmps27
  go_wp2_with fail
  go_ret
  exact ⟨rfl, rfl⟩
theorem size_no (n : Int) (w : World) (h : n < 1 ∨ 16 < n) : Calls Try.prog 27 #[.int .i64 n] w fun e w' => e = .returned (.bool false) ∧ w' = w := by
  by_cases c : 1 ≤ n
  · have z1 : decide ((1 : Int) ≤ n) = true := decide_eq_true c
    have z2 : decide (n ≤ (16 : Int)) = false := decide_eq_false (by omega)
    go_enter Try.func27, Try.ntmps27
    go_wp2_with fail
    go_ret
    exact ⟨rfl, rfl⟩
  · have z1 : decide ((1 : Int) ≤ n) = false := decide_eq_false c
    go_enter Try.func27, Try.ntmps27
    go_wp2_with fail
    go_ret
    exact ⟨rfl, rfl⟩
/-- Unit's rows -/
def uf (i k : Nat) : Nat := if i = k then 1 else 0
theorem unitAt_any (i k : Nat) (w : World) : Calls Try.prog 38 #[.int .i64 (i : Nat), .int .i64 (k : Nat)] w fun e w' => e = .returned (.int .u8 (uf i k : Nat)) ∧ w' = w := by
  by_cases c : i = k
  · have z : ((i : Int) == (k : Int)) = true := by rw [c]; simp
    have HE : Hid (uf i k = 1) := by show uf i k = 1; unfold uf; rw [if_pos c]
    clear c
    go_enter Try.func38, Try.ntmps38
    go_wp2_with fail
    go_ret
    exact ⟨by rw [HE.out]; rfl, rfl⟩
  · have z : ((i : Int) == (k : Int)) = false := by rw [beq_eq_false_iff_ne]; omega
    have HE : Hid (uf i k = 0) := by show uf i k = 0; unfold uf; rw [if_neg c]
    clear c
    go_enter Try.func38, Try.ntmps38
    go_wp2_with fail
    go_ret
    exact ⟨by rw [HE.out]; rfl, rfl⟩
theorem cf29 (args : Array Value) (W : World) : (callFunc 38 args).run Try.prog W = .ok (.enter 38 args) W := by rfl
theorem cf30 (args : Array Value) (W : World) : (callFunc 41 args).run Try.prog W = .ok (.enter 41 args) W := by rfl
theorem unit_clo (w : World) (n : Nat) : Clo 38 #[] w uf n n := by
  intro W hB i k hi hk
  refine ⟨by unfold uf; split <;> decide, ?_⟩
  refine (unitAt_any i k W).mono ?_
  rintro e w' ⟨rfl, rfl⟩
  exact ⟨rfl, Below.refl _ _⟩
theorem unit_any (n : Nat) (w : World) (h1 : 1 ≤ n) (h2 : n ≤ 16) : Calls Try.prog 31 #[.int .i64 (n : Nat)] w fun e w' => ∃ ρ, e = .returned (.tuple #[.slice (some ⟨w.heap.size, 0, none⟩) n n, .int .i64 0]) ∧ FS w w' w.heap.size n n ρ n uf := by
  go_enter Try.func31, Try.ntmps31
  go_wp2_with fail
  refine (size_yes n _ h1 h2).mono ?_
  rintro e w1 ⟨rfl, rfl⟩
  go_wp2_with fail
  refine (fill_any n n 38 #[] uf _ (by omega) (by omega) cf29 (unit_clo _ n)).mono ?_
  rintro e w2 ⟨ρ, rfl, hF⟩
  go_wp2_with fail
  go_ret2
  exact ⟨ρ, rfl, hF⟩
theorem unit_no (n : Int) (w : World) (h : n < 1 ∨ 16 < n) : Calls Try.prog 31 #[.int .i64 n] w fun e w' => e = .returned (.tuple #[.slice none 0 0, .int .i64 3]) ∧ w' = w := by
  go_enter Try.func31, Try.ntmps31
  go_wp2_with fail
  refine (size_no n _ h).mono ?_
  rintro e w1 ⟨rfl, rfl⟩
  go_wp2_with fail
  go_ret2
  exact ⟨rfl, rfl⟩
/-- what stands in row i and column k -/
def ent (A : List (List Nat)) (i k : Nat) : Nat := (A[i]?.getD [])[k]?.getD 0
/-- the sum of products of the first so many -/
def dot : Nat → (Nat → Nat) → (Nat → Nat) → Nat
  | 0, _, _ => 0
  | t + 1, x, y => dot t x y ^^^ Gf.gm (x t) (y t)
theorem dot_lt {x y : Nat → Nat} : ∀ {t : Nat}, (∀ j, j < t → x j < 256) → dot t x y < 256
  | 0, _ => by show 0 < 256; decide
  | t + 1, h => Gf.xlt (dot_lt fun j hj => h j (by omega)) (Gf.gm_lt (h t (by omega)))
theorem getD_lt {L : List Nat} (h : ∀ x ∈ L, x < 256) (j : Nat) : L[j]?.getD 0 < 256 := by
  by_cases hj : j < L.length
  · rw [List.getElem?_eq_getElem hj]; exact h _ (List.getElem_mem _)
  · rw [List.getElem?_eq_none (by omega)]; decide
set_option maxRecDepth 100000 in
set_option maxHeartbeats 2000000 in
theorem mul1_any (ba bb : Nat) (va vb : Value) (A B : List (List Nat)) (N : Nat) (W : World) (ca : W.cell? ⟨ba, 0, none⟩ = some va) (cb : W.cell? ⟨bb, 0, none⟩ = some vb) (hA : Mx N W va A) (hB : Mx N W vb B)
    (i k t : Nat) (hi : i < A.length) (ht : (A[i]?.getD []).length = t) (hl : t ≤ B.length) (hk : ∀ j, j < t → k < (B[j]?.getD []).length) (t64 : t ≤ 64) :
    Calls Try.prog 41 #[.int .i64 (i : Nat), .int .i64 (k : Nat), .pointer (some ⟨ba, 0, none⟩), .pointer (some ⟨bb, 0, none⟩)] W fun e w' => e = .returned (.int .u8 (dot t (ent A i) (fun j => ent B j k) : Nat)) ∧ w' = W := by
  obtain ⟨a, c, hva⟩ := hA.shape
  subst hva
  obtain ⟨b, d, hvb⟩ := hB.shape
  subst hvb
  obtain ⟨b1, o1, r1, k1, rfl, hx, hx2⟩ := hA.at hi
  rw [ht] at hx
  have HX := hid_of hx2
  have HB := hid_of hB
  have HT := hid_of ht
  have HK := hid_of hk
  have hbl := hB.1
  have hal := hA.1
  clear hA hB hx2 ht hk
  go_enter Try.func41, Try.ntmps41
  go_wp2_with fail
  go_loopw [7, 15] (fun s i' w' => ∃ m : Nat, m ≤ t ∧ s = .int .u8 (dot m (ent A i) (fun j => ent B j k) : Nat) ∧ i' = .int .i64 m ∧ w' = W) (fun _ i' _ => t - (intOf i').toNat)
  case atStart => exact ⟨0, by omega, rfl, rfl, rfl⟩
  case round =>
    obtain ⟨m, hm, rfl, rfl, hw⟩ := hrel
    subst hw
    by_cases hlt : m < t
    · have hX' := HX.out
      obtain ⟨b2, o2, e2, hy⟩ := hX'.at (j := m) (by rw [HT.out]; exact hlt)
      obtain ⟨b3, o3, r3, k3, e3, hz, hz2⟩ := HB.out.at (j := m) (by omega)
      subst e2 e3
      have hkm := HK.out m hlt
      obtain ⟨b4, o4, e4, hq⟩ := hz2.at (j := k) hkm
      subst e4
      have hd := dot_lt (x := ent A i) (y := fun j => ent B j k) (t := m) (fun j _ => getD_lt hX'.1 j)
      have hx1 := getD_lt hX'.1 m
      have hy1 := getD_lt hz2.1 k
      have hs : dot (m + 1) (ent A i) (fun j => ent B j k) = dot m (ent A i) (fun j => ent B j k) ^^^ Gf.gm (ent A i m) (ent B m k) := rfl
      obtain ⟨lr, hlr⟩ : ∃ n, (B[m]?.getD []).length = n := ⟨_, rfl⟩
      rw [hlr] at hz hkm
      have hlr2 : lr ≤ 140737488351232 := by rw [← hlr]; exact hz2.2.1
      obtain ⟨x, hxe⟩ : ∃ x, ent A i m = x := ⟨_, rfl⟩
      obtain ⟨y, hye⟩ : ∃ x, ent B m k = x := ⟨_, rfl⟩
      rw [hxe, hye] at hs
      have hxe' : (A[i]?.getD [])[m]?.getD 0 = x := hxe
      have hye' : (B[m]?.getD [])[k]?.getD 0 = y := hye
      rw [hxe'] at hy hx1
      rw [hye'] at hq hy1
      obtain ⟨s, hse⟩ : ∃ s, dot m (ent A i) (fun j => ent B j k) = s := ⟨_, rfl⟩
      rw [hse] at hs hd ⊢
      have h6 : Gf.gm x y < 256 := Gf.gm_lt hx1
      have h7 := u8_xor_nat s _ hd h6
      have HS := hid_of hs
      clear hs hxe hye hxe' hye' hse hz2 hX' hlr
      go_wp2_with fail
      refine (mul_any _ _ _ (by omega) (by omega) (by omega) (by omega)).mono ?_
      rintro e w2 ⟨rfl, hw⟩
      subst hw
      rw [Int.toNat_natCast, Int.toNat_natCast]
      go_wp2_with fail
      go_roundw
      case rel => exact ⟨m + 1, by omega, by rw [HS.out], by go_num, trivial⟩
      case measure => simp [intOf]; omega
    · have hme : m = t := by omega
      subst hme
      go_wp2_with fail
      go_ret
      exact ⟨rfl, rfl⟩
end Go.Proofs.Ytjpibfnkchbglab
