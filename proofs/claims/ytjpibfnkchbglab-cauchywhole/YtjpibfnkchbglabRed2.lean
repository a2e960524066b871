/- How matrix.reduce looks for a row. -/
import Derived.Test.YtjpibfnkchbglabRed1
namespace Go.Proofs.Ytjpibfnkchbglab
open Go.ChangeShapes Go.WideShapes Go.ChangeAt Go.RowKit Go.Shelf
theorem red1_any (b c k bk : Nat) (r : Nat → Nat) (w : World) (hk : k < c) (hr : r k < 256) (hw : w.heap[b]? = some (.cells (cellsB (rl c r)).toArray 5 (0, 0))) (hb : w.cell? ⟨bk, 0, none⟩ = some (.int .i64 (k : Nat))) :
    Calls Try.prog 66 #[.slice (some ⟨b, 0, none⟩) c c, .pointer (some ⟨bk, 0, none⟩)] w fun e w' => e = .returned (.bool (decide (r k ≠ 0))) ∧ w' = w := by
  have c1 := row_read hw hk
  obtain ⟨x, hx⟩ : ∃ x, r k = x := ⟨_, rfl⟩
  rw [hx] at c1 hr ⊢
  clear hw hx
  by_cases h : x = 0
  · subst h
    have HE : Hid (decide ((0 : Nat) ≠ 0) = false) := hid_of (by decide)
    go_enter Try.func66, Try.ntmps66
    go_wp2_with fail
    go_ret
    exact ⟨ret_bool HE.out.symm, rfl⟩
  · have z : ((x : Int) != 0) = true := by rw [bne_iff_ne]; omega
    have HE : Hid (decide (x ≠ 0) = true) := hid_of (decide_eq_true h)
    go_enter Try.func66, Try.ntmps66
    go_wp2_with fail
    go_ret
    exact ⟨ret_bool HE.out.symm, rfl⟩
theorem all_succ {p : Nat → Prop} {t : Nat} (h : ∀ j, j < t → p j) (ht : p t) : ∀ j, j < t + 1 → p j := by
  intro j hj
  by_cases c : j = t
  · rw [c]; exact ht
  · exact h j (by omega)
set_option maxRecDepth 100000 in
set_option maxHeartbeats 2000000 in
theorem indexF_any (g o m cap c k bk : Nat) (ρ : Nat → Nat) (A : Nat → Nat → Nat) (w : World) (hm : m ≤ 64) (hk : k < c) (hA : ∀ j, j < m → A (o + j) k < 256)
    (ho : ∀ j, j < m → w.cell? ⟨g, o + j, none⟩ = some (.slice (some ⟨ρ (o + j), 0, none⟩) c c)) (hw : ∀ j, j < m → w.heap[ρ (o + j)]? = some (.cells (cellsB (rl c (A (o + j)))).toArray 5 (0, 0))) (hb : w.cell? ⟨bk, 0, none⟩ = some (.int .i64 (k : Nat))) :
    Calls Try.prog 65 #[.slice (some ⟨g, o, none⟩) m cap, .func (.func 66) #[] #[.pointer (some ⟨bk, 0, none⟩)]] w fun e w' => (∃ x : Int, e = .returned (.int .i64 x) ∧ ((x = -1 ∧ ∀ j, j < m → A (o + j) k = 0) ∨ ∃ j : Nat, x = j ∧ j < m ∧ A (o + j) k ≠ 0 ∧ ∀ j', j' < j → A (o + j') k = 0)) ∧ w' = w := by
  have HA := hid_of hA
  have HO := hid_of ho
  have HW := hid_of hw
  have HB := hid_of hb
  clear hA ho hw hb
  go_enter Try.func65, Try.ntmps65
  go_wp2_with fail
  go_loopw [8] (fun i w' => ∃ t : Nat, t ≤ m ∧ i = .int .i64 t ∧ Hid (∀ j, j < t → A (o + j) k = 0) ∧ w' = w) (fun i _ => m - (intOf i).toNat)
  case atStart => exact ⟨0, by omega, rfl, fun j hj => by omega, rfl⟩
  case round =>
    obtain ⟨t, ht, rfl, HT, hw⟩ := hrel
    subst hw
    by_cases hlt : t < m
    · have c1 := HO.out t hlt
      have hcall := red1_any (ρ (o + t)) c k bk (A (o + t)) wr hk (HA.out t hlt) (HW.out t hlt) HB.out
      have HC := hid_of hcall
      clear hcall
      by_cases e : A (o + t) k = 0
      · have hd : Hid (decide (A (o + t) k ≠ 0) = false) := hid_of (decide_eq_false (by simp [e]))
        have HE := hid_of e
        clear e
        go_wp2_with (go_at_call 66; refine HC.out.mono ?_; rintro e w2 ⟨rfl, hw2⟩; subst hw2; rw [hd.out])
        go_roundw
        case rel => exact ⟨t + 1, by omega, by go_num, all_succ (p := fun j => A (o + j) k = 0) HT.out HE.out, trivial⟩
        case measure => simp [intOf]; omega
      · have hd : Hid (decide (A (o + t) k ≠ 0) = true) := hid_of (decide_eq_true e)
        have HE := hid_of e
        clear e
        go_wp2_with (go_at_call 66; refine HC.out.mono ?_; rintro e w2 ⟨rfl, hw2⟩; subst hw2; rw [hd.out])
        go_ret
        exact ⟨⟨_, rfl, .inr ⟨t, rfl, hlt, HE.out, HT.out⟩⟩, rfl⟩
    · have hte : t = m := by omega
      subst hte
      go_wp2_with fail
      go_ret
      exact ⟨⟨_, rfl, .inl ⟨rfl, HT.out⟩⟩, rfl⟩
set_option maxHeartbeats 1000000 in
theorem indexF_none (a : Option Addr) (cap : Nat) (fv : Value) (w : World) :
    Calls Try.prog 65 #[.slice a 0 cap, fv] w fun e w' => e = .returned (.int .i64 (-1)) ∧ w' = w := by
  go_enter Try.func65, Try.ntmps65
  go_wp2_with fail
  go_loop [8] (fun i => i = .int .i64 0) (fun _ => 0)
  case atStart => rfl
  case round =>
    subst hrel
    go_wp2_with fail
    go_ret
    exact ⟨rfl, rfl⟩
end Go.Proofs.Ytjpibfnkchbglab
