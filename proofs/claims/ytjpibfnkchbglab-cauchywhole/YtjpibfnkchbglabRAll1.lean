/- What matrix.Rows and matrix.Cauchy answer of everything. -/
import Derived.Test.YtjpibfnkchbglabRws2
import Derived.Test.YtjpibfnkchbglabArg
import Derived.Test.YtjpibfnkchbglabCau
namespace Go.Proofs.Ytjpibfnkchbglab
open Go.ChangeShapes Go.WideShapes Go.ChangeAt Go.RowKit Go.Shelf
set_option maxRecDepth 100000 in
set_option maxHeartbeats 4000000 in
theorem rows_e (va vi : Value) (A : List (List Nat)) (L : List Int) (w : World) (hA : Mx w.heap.size w va A) (hL : Is w.heap.size w vi L) (h : chk A ≠ 0) :
    Calls Try.prog 11 #[va, vi] w fun e w' => e = .returned (.tuple #[.slice none 0 0, .int .i64 (chk A : Nat)]) ∧ Below w.heap.size w w' := by
  have HA := hid_of hA
  obtain ⟨a, ca, hva⟩ := hA.shape
  subst hva
  obtain ⟨b, cb, hvb⟩ := hL.shape
  subst hvb
  obtain ⟨c1, c2, hB⟩ := two_boxes2 w (.slice a A.length ca) (.slice b L.length cb)
  have A2 := hid_of ((HA.out.below hB).mono hB.size)
  have BB := hid_of hB
  obtain ⟨x, hx⟩ : ∃ x, chk A = x := ⟨_, rfl⟩
  rw [hx] at h ⊢
  have HX := hid_of hx
  have z : ((x : Int) != 0) = true := by rw [bne_iff_ne]; omega
  clear hA hL hB c1 c2 hx
  go_enter Try.func11, Try.ntmps11
  go_wp2_with fail
  refine (check_any _ A _ _ A2.out).mono ?_
  rintro e w3 ⟨rfl, hw⟩
  subst hw
  rw [HX.out]
  go_wp2_with fail
  go_ret2
  exact ⟨rfl, BB.out⟩
set_option maxRecDepth 100000 in
set_option maxHeartbeats 4000000 in
theorem rows_l (va vi : Value) (A : List (List Nat)) (L : List Int) (E : Nat) (w : World) (hA : Mx w.heap.size w va A) (hL : Is w.heap.size w vi L) (h0 : chk A = 0) (hE : (16 < L.length ∧ E = 2) ∨ (L.length = 0 ∧ E = 1)) :
    Calls Try.prog 11 #[va, vi] w fun e w' => e = .returned (.tuple #[.slice none 0 0, .int .i64 (E : Nat)]) ∧ Below w.heap.size w w' := by
  have HA := hid_of hA
  obtain ⟨a, ca, hva⟩ := hA.shape
  subst hva
  obtain ⟨b, cb, hvb⟩ := hL.shape
  subst hvb
  have hl := hL.1
  obtain ⟨c1, c2, hB⟩ := two_boxes2 w (.slice a A.length ca) (.slice b L.length cb)
  have A2 := hid_of ((HA.out.below hB).mono hB.size)
  have BB := hid_of hB
  have H0 := hid_of h0
  clear hA hL hB h0
  rcases hE with ⟨h16, rfl⟩ | ⟨h16, rfl⟩
  · have z : decide ((16 : Int) < (L.length : Int)) = true := decide_eq_true (by omega)
    go_enter Try.func11, Try.ntmps11
    go_wp2_with fail
    generalize (w.alloc (.cells #[.slice a A.length ca] 23)).alloc (.cells #[.slice b L.length cb] 22) = w2 at *
    refine (check_any _ A _ _ A2.out).mono ?_
    rintro e w3 ⟨rfl, hw⟩
    subst hw
    rw [H0.out]
    go_wp2_with fail
    go_ret2
    exact ⟨rfl, BB.out⟩
  · have z : decide ((16 : Int) < (L.length : Int)) = false := decide_eq_false (by omega)
    have z2 : ((L.length : Int) == 0) = true := by rw [h16]; rfl
    clear h16
    go_enter Try.func11, Try.ntmps11
    go_wp2_with fail
    generalize (w.alloc (.cells #[.slice a A.length ca] 23)).alloc (.cells #[.slice b L.length cb] 22) = w2 at *
    refine (check_any _ A _ _ A2.out).mono ?_
    rintro e w3 ⟨rfl, hw⟩
    subst hw
    rw [H0.out]
    go_wp2_with fail
    go_ret2
    exact ⟨rfl, BB.out⟩
set_option maxRecDepth 100000 in
set_option maxHeartbeats 4000000 in
theorem rows_bad (va vi : Value) (A : List (List Nat)) (L : List Int) (n : Nat) (w : World) (hA : Mx w.heap.size w va A) (hL : Is w.heap.size w vi L) (h0 : chk A = 0) (hn : A.length = n) (l1 : 1 ≤ L.length) (l16 : L.length ≤ 16) (hb : L.any (bad n) = true) :
    Calls Try.prog 11 #[va, vi] w fun e w' => e = .returned (.tuple #[.slice none 0 0, .int .i64 3]) ∧ Below w.heap.size w w' := by
  have HA := hid_of hA
  have HL := hid_of hL
  obtain ⟨a, ca, hva⟩ := hA.shape
  rw [hn] at hva
  subst hva
  obtain ⟨b, cb, hvb⟩ := hL.shape
  subst hvb
  obtain ⟨c1, c2, hB⟩ := two_boxes2 w (.slice a n ca) (.slice b L.length cb)
  have A2 := hid_of ((HA.out.below hB).mono hB.size)
  have L2 := hid_of ((HL.out.below hB).mono hB.size)
  have BB := hid_of hB
  have H0 := hid_of h0
  have HBd := hid_of hb
  have C1 := hid_of c1
  have z : decide ((16 : Int) < (L.length : Int)) = false := decide_eq_false (by omega)
  have z2 : ((L.length : Int) == 0) = false := by rw [beq_eq_false_iff_ne]; omega
  have hmf : ∀ (fn : Fn) (first cap : Array Value) (w : World), (Instr.makeFunc fn first cap).run Try.prog w = .ok (.func fn first cap) w := fun _ _ _ _ => rfl
  clear hA hL hB h0 hb
  go_enter Try.func11, Try.ntmps11
  go_wp2_with fail
  generalize (w.alloc (.cells #[.slice a n ca] 23)).alloc (.cells #[.slice b L.length cb] 22) = w2 at *
  refine (check_any _ A _ _ A2.out).mono ?_
  rintro e w3 ⟨rfl, hw⟩
  subst hw
  rw [H0.out]
  go_wp2_with fail
  refine (cont_any _ L _ n _ ca _ _ L2.out C1.out).mono ?_
  rintro e w4 ⟨rfl, hw⟩
  subst hw
  rw [HBd.out]
  go_wp2_with fail
  go_ret2
  exact ⟨rfl, BB.out⟩
/-- what Rows says beside -/
def rre (A : List (List Nat)) (L : List Int) : Nat := if chk A ≠ 0 then chk A else if 16 < L.length then 2 else if L.length = 0 then 1 else if L.any (bad A.length) = true then 3 else 0
/-- what Rows makes -/
def rrm (A : List (List Nat)) (L : List Int) : List (List Nat) := if rre A L ≠ 0 then [] else tab L.length (A[0]?.getD []).length (rwf A L)
theorem rows_all (va vi : Value) (A : List (List Nat)) (L : List Int) (w : World) (hA : Mx w.heap.size w va A) (hL : Is w.heap.size w vi L) (er : Nat) (her : rre A L = er) :
    Calls Try.prog 11 #[va, vi] w fun e w' => ∃ v, e = .returned (.tuple #[v, .int .i64 (er : Nat)]) ∧ Mx w'.heap.size w' v (rrm A L) ∧ Below w.heap.size w w' := by
  unfold rrm
  rw [her]
  unfold rre at her
  subst her
  by_cases h1 : chk A ≠ 0
  · rw [if_pos h1, if_pos h1]
    exact (rows_e va vi A L w hA hL h1).mono fun e w' ⟨he, hb⟩ => ⟨_, he, Mx.nil _ _, hb⟩
  · have h1' : chk A = 0 := by omega
    rw [if_neg h1]
    by_cases h2 : 16 < L.length
    · rw [if_pos h2, if_pos (by decide)]
      exact (rows_l va vi A L 2 w hA hL h1' (.inl ⟨h2, rfl⟩)).mono fun e w' ⟨he, hb⟩ => ⟨_, he, Mx.nil _ _, hb⟩
    · rw [if_neg h2]
      by_cases h3 : L.length = 0
      · rw [if_pos h3, if_pos (by decide)]
        exact (rows_l va vi A L 1 w hA hL h1' (.inr ⟨h3, rfl⟩)).mono fun e w' ⟨he, hb⟩ => ⟨_, he, Mx.nil _ _, hb⟩
      · rw [if_neg h3]
        by_cases h4 : L.any (bad A.length) = true
        · rw [if_pos h4, if_pos (by decide)]
          exact (rows_bad va vi A L _ w hA hL h1' rfl (by omega) (by omega) h4).mono fun e w' ⟨he, hb⟩ => ⟨_, he, Mx.nil _ _, hb⟩
        · rw [if_neg h4, if_neg (by decide)]
          exact rows_ok va vi A L _ _ _ w hA hL (chk_rect h1') rfl (by omega) (by omega) (by simpa using h4)
/-- what Cauchy says beside, and makes -/
def cre (r c : Int) : Nat := if (r < 1 ∨ 16 < r) ∨ (c < 1 ∨ 16 < c) then 3 else 0
def crm (r c : Int) : List (List Nat) := if (r < 1 ∨ 16 < r) ∨ (c < 1 ∨ 16 < c) then [] else tab r.toNat c.toNat (cf r.toNat)
theorem cauchy_all (r c : Int) (w : World) (er : Nat) (her : cre r c = er) :
    Calls Try.prog 9 #[.int .i64 r, .int .i64 c] w fun e w' => ∃ v, e = .returned (.tuple #[v, .int .i64 (er : Nat)]) ∧ Mx w'.heap.size w' v (crm r c) ∧ Below w.heap.size w w' := by
  unfold cre at her
  subst her
  unfold crm
  by_cases h : (r < 1 ∨ 16 < r) ∨ (c < 1 ∨ 16 < c)
  · rw [if_pos h, if_pos h]
    exact (cauchy_no r c w h).mono fun e w' ⟨he, hb⟩ => ⟨_, he, Mx.nil _ _, hb⟩
  · rw [if_neg h, if_neg h]
    obtain ⟨n, rfl⟩ := Int.eq_ofNat_of_zero_le (show 0 ≤ r by omega)
    obtain ⟨m, rfl⟩ := Int.eq_ofNat_of_zero_le (show 0 ≤ c by omega)
    exact cauchy_ok n m w (by omega) (by omega) (by omega) (by omega)
theorem arg_is {H : Type} {enc : TypeId × Value → H} {W : World} {fuel : Nat} {a : Option Addr} {l c : Nat} {d : DataW H} {p : List MemPlace} {ts : List TypeId} {ds : List (DataW H)} {j : Nat}
    (hf : DataW.trod enc Try.prog W 0 (fun _ => true) true fuel 22 (Value.slice a l c).cells.toList = some (d, p)) (hsz : (DataW.weightsEach Try.prog ts ds).all (· ≤ reachBytes) = true) (ht : ts[j]? = some 22) (hd : ds[j]? = some d) : ∃ L, Is W.heap.size W (.slice a l c) L := by
  rcases open_ints Try.underlying22 Try.underlying3 (by kernel_rfl) hf with ⟨hcs, _⟩ | ⟨x, len, cap, zs, hcs, _, hl, hm, hz, hx, hcell, hwz⟩
  · simp [Value.cells] at hcs
    obtain ⟨rfl, rfl, rfl⟩ := hcs
    exact ⟨[], by simp, none, 0, rfl, by simp, .inl rfl⟩
  · simp [Value.cells] at hcs
    obtain ⟨rfl, rfl, rfl⟩ := hcs
    obtain ⟨rfl, rfl⟩ := Prod.mk.inj hx
    have hb := sized_slice hsz (j := j) (t := 22) (e := 3) ht hd Try.underlying22
    rw [show Try.prog.bytesOf 3 = 8 by kernel_rfl] at hb
    simp only [lits, List.length_map, List.length_take, List.length_drop, reachBytes] at hb
    simp only [if_true] at hz
    have hlen : (zs.take l).length = l := by rw [List.length_take]; omega
    refine ⟨zs.take l, by omega, _, _, by rw [hlen], by omega, ?_⟩
    by_cases h0 : l = 0
    · left; rw [h0]; rfl
    · right
      obtain ⟨b, off, sp⟩ := x
      cases sp with
      | some s =>
        have h6 := hcell 0 (by omega)
        simp [World.cell?, Addr.add] at h6
        split at h6 <;> simp at h6
      | none =>
        have hc : ∀ j, j < zs.length → W.cell? ⟨b, off + j, none⟩ = some (.int .i64 (zs.getD j 0)) := fun j hj => by rw [← Addr.add_mid]; exact hcell j hj
        refine ⟨b, off, rfl, cell_lt (hc 0 (by omega)), fun j hj => ?_⟩
        rw [hlen] at hj
        rw [hc j (by omega)]
        have hjz : j < zs.length := by omega
        rw [List.getElem?_take_of_lt hj, List.getElem?_eq_getElem hjz]
        simp [List.getD, hjz]
end Go.Proofs.Ytjpibfnkchbglab
