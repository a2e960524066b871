/- What matrix.Rank and matrix.Inverse answer of a matrix that Check lets through. -/
import Derived.Test.YtjpibfnkchbglabClos
import Derived.Test.YtjpibfnkchbglabRed4
namespace Go.Proofs.Ytjpibfnkchbglab
open Go.ChangeShapes Go.WideShapes Go.ChangeAt Go.RowKit Go.Shelf
theorem one_box (w : World) (x : Value) (t : TypeId) : (w.alloc (.cells #[x] t)).cell? ⟨w.heap.size, 0, none⟩ = some x ∧ (w.alloc (.cells #[x] t)).heap.size = w.heap.size + 1 ∧ Below w.heap.size w (w.alloc (.cells #[x] t)) :=
  ⟨by simp [go_sem], by simp, (Below.refl _ w).alloc (Nat.le_refl _) _⟩
set_option maxRecDepth 100000 in
set_option maxHeartbeats 4000000 in
theorem rank_ok (va : Value) (A : List (List Nat)) (n c : Nat) (w : World) (hA : Mx w.heap.size w va A) (rA : Rect A n c) :
    Calls Try.prog 32 #[va] w fun e w' => e = .returned (.tuple #[.int .i64 ((red n (ent A) c).1 : Nat), .int .i64 0]) ∧ Below w.heap.size w w' := by
  have HA := hid_of hA
  have KA := hid_of (rect_chk rA)
  have RA := hid_of rA
  obtain ⟨a, ca, hva⟩ := hA.shape
  rw [rA.len] at hva
  have n16 := rA.n16
  have n1 := rA.n1
  have c16 := rA.c16
  subst hva
  obtain ⟨b1, o1, r1, k1, rfl, hx, _⟩ := hA.at (j := 0) (by rw [rA.len]; omega)
  rw [rA.row 0 (by omega), Nat.add_zero] at hx
  have hmf : ∀ (fn : Fn) (first cap : Array Value) (w : World), (Instr.makeFunc fn first cap).run Try.prog w = .ok (.func fn first cap) w := fun _ _ _ _ => rfl
  clear hA rA
  go_enter Try.func32, Try.ntmps32
  go_wp2_with fail
  obtain ⟨c1, c2, hB⟩ := one_box w (.slice (some ⟨b1, o1, none⟩) n ca) 23
  generalize w.alloc (.cells #[.slice (some ⟨b1, o1, none⟩) n ca] 23) = w2 at *
  have A2 := hid_of ((HA.out.below hB).mono hB.size)
  have x2 := (hB.cell (p := ⟨b1, o1, none⟩) (cell_lt hx)).trans hx
  have BB := hid_of hB
  have HCl := hid_of (rank_clo w.heap.size _ A n c w2 c1 (by omega) A2.out RA.out)
  clear hx hB HA c2
  refine (check_any _ A _ _ A2.out).mono ?_
  rintro e w3 ⟨rfl, hw⟩
  subst hw
  rw [KA.out]
  go_wp2_with fail
  refine (fill_mx n c 63 _ (ent A) _ (by omega) (by omega) cf35 HCl.out).mono ?_
  rintro e w4 ⟨v, rfl, hM, hB4, ρ, hv, hF⟩
  have HF := hid_of hF
  have B4 := hid_of (BB.out.trans (hB4.mono BB.out.size))
  have hb : Bm n c (ent A) := fun i j hi hj => (HCl.out _ (Below.refl _ _) i j hi hj).1
  clear hM hB4 hF
  generalize w3.heap.size = g at *
  subst hv
  go_wp2_with fail
  refine (reduce_any _ _ g n c c ρ (ent A) (by omega) (by omega) (Nat.le_refl _) hb HF.out).mono ?_
  rintro e w5 ⟨rfl, ⟨σ, hF5⟩, hK⟩
  have B5 := hid_of (BB.out.trans (hF5.bel.mono BB.out.size))
  clear hF5 hK
  go_wp2_with fail
  go_ret2
  exact ⟨rfl, B5.out⟩
theorem Kp.cell {g n : Nat} {ρ : Nat → Nat} {W W' : World} (h : Kp g n ρ W W') {p : Addr} (hl : p.block < W.heap.size) (hg : p.block ≠ g) (hr : ∀ i, i < n → p.block ≠ ρ i) : W'.cell? p = W.cell? p := World.cell?_of_block (w := W) (h.block p.block hl hg hr)
/-- what Inverse makes: the steps that turn the left half into a Unit -/
def iv (A : List (List Nat)) (n i k : Nat) : Nat := (red n (wf A n) n).2 i (n + k)
/-- how far it comes -/
def ivr (A : List (List Nat)) (n : Nat) : Nat := (red n (wf A n) n).1
theorem ent_tab {n c i k : Nat} {f : Nat → Nat → Nat} (hi : i < n) (hk : k < c) : ent (tab n c f) i k = f i k := by
  unfold ent
  rw [tab_get f hi, rl_get _ hk]
theorem inv2_clo {w5 w8 : World} {g n n2 : Nat} {σ : Nat → Nat} {A : List (List Nat)} (hF : FS w5 w8 g n n2 σ n (red n (wf A n) n).2) (hb : Bm n n2 (wf A n)) (h2 : 2 * n = n2) (hn : n ≤ 16) (bw bn : Nat) (vw : w8.cell? ⟨bw, 0, none⟩ = some (.slice (some ⟨g, 0, none⟩) n n)) (vn : w8.cell? ⟨bn, 0, none⟩ = some (.int .i64 (n : Nat))) :
    Clo 40 #[.pointer (some ⟨bw, 0, none⟩), .pointer (some ⟨bn, 0, none⟩)] w8 (iv A n) n n := by
  have hR := (red_ok hb n).2
  have hM := hF.mx (by omega) (by omega) (fun i k hi hk => hR i k hi hk)
  intro W hW i k hi hk
  refine ⟨hR i (n + k) hi (by omega), ?_⟩
  have := inv2_any bw bn _ _ n n2 w8.heap.size W ((hW.cell (p := ⟨bw, 0, none⟩) (cell_lt vw)).trans vw) ((hW.cell (p := ⟨bn, 0, none⟩) (cell_lt vn)).trans vn) (hM.below hW) (tab_len _ _ _) (fun j hj => by rw [tab_get _ hj, rl_len]) (by omega) i k hi (by omega)
  rw [ent_tab hi (by omega)] at this
  exact this
/-- what Inverse answers -/
def InvEnd (A : List (List Nat)) (n : Nat) (e : Ending) (w' : World) : Prop :=
  if ivr A n < n then e = .returned (.tuple #[.slice none 0 0, .int .i64 5]) else ∃ v, e = .returned (.tuple #[v, .int .i64 0]) ∧ Mx w'.heap.size w' v (tab n n (iv A n))
theorem InvEnd.none {A : List (List Nat)} {n : Nat} (h : ivr A n < n) (w' : World) : InvEnd A n (.returned (.tuple #[.slice none 0 0, .int .i64 5])) w' := by unfold InvEnd; rw [if_pos h]
theorem InvEnd.some {A : List (List Nat)} {n : Nat} (h : ¬ ivr A n < n) {v : Value} {w' : World} (hM : Mx w'.heap.size w' v (tab n n (iv A n))) : InvEnd A n (.returned (.tuple #[v, .int .i64 0])) w' := by unfold InvEnd; rw [if_neg h]; exact ⟨v, rfl, hM⟩
set_option maxRecDepth 100000 in
set_option maxHeartbeats 8000000 in
theorem inverse_ok (va : Value) (A : List (List Nat)) (n : Nat) (w : World) (hA : Mx w.heap.size w va A) (rA : Rect A n n) :
    Calls Try.prog 13 #[va] w fun e w' => InvEnd A n e w' ∧ Below w.heap.size w w' := by
  have HA := hid_of hA
  have KA := hid_of (rect_chk rA)
  have RA := hid_of rA
  obtain ⟨a, ca, hva⟩ := hA.shape
  rw [rA.len] at hva
  have n16 := rA.n16
  have n1 := rA.n1
  subst hva
  obtain ⟨b1, o1, r1, k1, rfl, hx, _⟩ := hA.at (j := 0) (by rw [rA.len]; omega)
  rw [rA.row 0 (by omega), Nat.add_zero] at hx
  have hmf : ∀ (fn : Fn) (first cap : Array Value) (w : World), (Instr.makeFunc fn first cap).run Try.prog w = .ok (.func fn first cap) w := fun _ _ _ _ => rfl
  clear hA rA
  go_enter Try.func13, Try.ntmps13
  go_wp2_with fail
  obtain ⟨c1, c2, hB⟩ := one_box w (.slice (some ⟨b1, o1, none⟩) n ca) 23
  generalize w.alloc (.cells #[.slice (some ⟨b1, o1, none⟩) n ca] 23) = w2 at *
  have A2 := hid_of ((HA.out.below hB).mono hB.size)
  have x2 := (hB.cell (p := ⟨b1, o1, none⟩) (cell_lt hx)).trans hx
  have BB := hid_of hB
  have C2 := hid_of c2
  clear hx hB HA c2
  refine (check_any _ A _ _ A2.out).mono ?_
  rintro e w3 ⟨rfl, hw⟩
  subst hw
  rw [KA.out]
  obtain ⟨d1, d2, hB⟩ := one_box w3 (.int .i64 (n : Nat)) 3
  have y3 := (hB.cell (p := ⟨w.heap.size, 0, none⟩) (by have := C2.out; show w.heap.size < _; omega)).trans c1
  have z3 := (hB.cell (p := ⟨b1, o1, none⟩) (cell_lt x2)).trans x2
  have hnn : ((n : Int) != (n : Int)) = false := by simp
  have A3 := hid_of ((A2.out.below hB).mono hB.size)
  have BB3 := hid_of (BB.out.trans (hB.mono BB.out.size))
  have D2 := hid_of d2
  clear hB d2
  go_wp2_with fail
  generalize w3.alloc (.cells #[.int .i64 (n : Nat)] 3) = w4 at *
  go_quiet (fail)
  have d1' : (w4.drewN nq).cell? ⟨w3.heap.size, 0, none⟩ = some (.int .i64 (n : Nat)) := d1
  have y3' : (w4.drewN nq).cell? ⟨w.heap.size, 0, none⟩ = some (.slice (some ⟨b1, o1, none⟩) n ca) := y3
  have A4 : Hid (Mx (w4.drewN nq).heap.size (w4.drewN nq) (.slice (some ⟨b1, o1, none⟩) n ca) A) := A3.out
  have BB4 := hid_of (below_drewN nq BB3.out)
  have D4 : Hid ((w4.drewN nq).heap.size = w3.heap.size + 1) := D2.out
  clear d1 y3 z3 A3 BB3 D2 x2 c1 A2 BB
  generalize w4.drewN nq = w5 at *
  have lb : w3.heap.size < w5.heap.size := by have := D4.out; omega
  have la : w.heap.size < w5.heap.size := by have := C2.out; omega
  have HCl := hid_of (inv1_clo w.heap.size w3.heap.size _ A n w5 y3' d1' la lb A4.out RA.out)
  generalize w3.heap.size = bn at *
  have hmul : IntKind.i64.wrap (2 * (n : Int)) = ((2 * n : Nat) : Int) := by rw [IntKind.wrap_i64]; omega
  have LB := hid_of lb
  clear D4 C2 la lb
  obtain ⟨n2, hn2⟩ : ∃ m, 2 * n = m := ⟨_, rfl⟩
  rw [hn2] at hmul HCl
  have HN2 := hid_of hn2
  have n232 : n2 ≤ 32 := by omega
  clear hn2
  go_wp2_with fail
  refine (fill_mx n n2 37 _ (wf A n) _ (by omega) (by omega) cf32 HCl.out).mono ?_
  rintro e w6 ⟨v, rfl, hM, hB6, ρ, hv, hF⟩
  have HF := hid_of hF
  have hb : Bm n n2 (wf A n) := fun i j hi hj => (HCl.out _ (Below.refl _ _) i j hi hj).1
  have n6 := (hB6.cell (p := ⟨bn, 0, none⟩) LB.out).trans d1'
  have HBm := hid_of hb
  have L6 : Hid (bn < w6.heap.size) := hid_of (Nat.lt_of_lt_of_le LB.out hB6.size)
  have LG : Hid (bn < w5.heap.size) := LB
  clear hM hB6 hF hb d1' y3' A4
  generalize w5.heap.size = g at *
  subst hv
  obtain ⟨e1, e2, hB⟩ := one_box w6 (.slice (some ⟨g, 0, none⟩) n n) 23
  have n7 := (hB.cell (p := ⟨bn, 0, none⟩) L6.out).trans n6
  have HF7 := hid_of (HF.out.below hB)
  have HR7 : Hid (∀ i, i < n → ρ i < w6.heap.size) := hid_of fun i hi => heap_lt (HF.out.row i hi).2
  have HG7 := hid_of (heap_lt HF.out.out)
  have HGR : Hid (∀ i, i < n → g < ρ i) := hid_of fun i hi => (HF.out.row i hi).1
  have E2 := hid_of e2
  clear hB e2 n6 HF
  go_wp2_with fail
  have BB7 := hid_of (BB4.out.trans (HF7.out.bel.mono BB4.out.size))
  generalize w6.alloc (.cells #[.slice (some ⟨g, 0, none⟩) n n] 23) = w7 at *
  have e1d : w7.drew.cell? ⟨w6.heap.size, 0, none⟩ = some (.slice (some ⟨g, 0, none⟩) n n) := e1
  have n7d : w7.drew.cell? ⟨bn, 0, none⟩ = some (.int .i64 (n : Nat)) := n7
  have HF7d := hid_of HF7.out.drew
  have HLw := hid_of (cell_lt e1d)
  generalize w6.heap.size = bw at *
  obtain ⟨rk, hrk⟩ : ∃ r, (red n (wf A n) n).1 = r := ⟨_, rfl⟩
  have hrk2 : ivr A n = rk := hrk
  have RV := hid_of hrk2
  have RK := hid_of hrk
  clear hrk hrk2
  have HRed := hid_of (reduce_any _ _ g n n2 n ρ (wf A n) (by omega) (by omega) (by have := HN2.out; omega) HBm.out HF7d.out)
  have HLn : Hid (bn < w7.drew.heap.size) := hid_of (cell_lt n7d)
  by_cases c : rk < n
  · have t1 : decide ((rk : Int) < (n : Int)) = true := decide_eq_true (by omega)
    have t2 : decide (rk < n) = true := decide_eq_true c
    go_region_with (go_at_call 39; refine HRed.out.mono ?_; rintro e w8 ⟨rfl, ⟨σ, hF8⟩, hK⟩; rw [RK.out]; have n8 := (hK.cell (p := ⟨bn, 0, none⟩) HLn.out (by have := LG.out; show bn ≠ g; omega) (fun i hi => by have := HGR.out i hi; have := LG.out; show bn ≠ ρ i; omega)).trans n7d; have B8 := hid_of (BB4.out.trans (hF8.bel.mono BB4.out.size)); clear hF8 hK)
    all_goals go_wp2_with fail
    all_goals go_ret2
    all_goals exact ⟨InvEnd.none (by rw [RV.out]; exact c) _, by first | exact B8.out | exact B8.out.drew⟩
  · have t1 : decide ((rk : Int) < (n : Int)) = false := decide_eq_false (by omega)
    have t2 : decide (rk < n) = false := decide_eq_false c
    go_region_with (go_at_call 39; refine HRed.out.mono ?_; rintro e w8 ⟨rfl, ⟨σ, hF8⟩, hK⟩; rw [RK.out]; have n8 := (hK.cell (p := ⟨bn, 0, none⟩) HLn.out (by have := LG.out; show bn ≠ g; omega) (fun i hi => by have := HGR.out i hi; have := LG.out; show bn ≠ ρ i; omega)).trans n7d; have v8 := (hK.cell (p := ⟨bw, 0, none⟩) HLw.out (by have := HG7.out; show bw ≠ g; omega) (fun i hi => by have := HR7.out i hi; show bw ≠ ρ i; omega)).trans e1d; have F8 := hid_of hF8; clear hF8 hK)
    all_goals (
      have B8 := hid_of (BB4.out.trans (F8.out.bel.mono BB4.out.size))
      have HC8 := hid_of (inv2_clo F8.out HBm.out HN2.out (by omega) bw bn v8 n8)
      go_wp2_with fail
      refine (fill_mx n n 40 _ (iv A n) _ (by omega) (by omega) cf34 HC8.out).mono ?_
      rintro e w9 ⟨v9, rfl, hM9, hB9, _⟩
      have M9 := hid_of hM9
      have B9 := hid_of (B8.out.trans (hB9.mono B8.out.size))
      clear hM9 hB9
      go_wp2_with fail
      go_ret2
      exact ⟨InvEnd.some (by rw [RV.out]; exact c) M9.out, B9.out⟩)
end Go.Proofs.Ytjpibfnkchbglab
