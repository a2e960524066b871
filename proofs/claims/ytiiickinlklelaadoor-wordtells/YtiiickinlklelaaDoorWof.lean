/- What the reference's WordOf answers: the program's own word, for every byte. -/
import Derived.Test.YtiiickinlklelaaDoorRby
namespace Go.Proofs.YtiiickinlklelaaDoor
open Go.ChangeShapes Go.WideShapes Go.ChangeAt Go.RowKit Go.Shelf
set_option maxRecDepth 100000 in
theorem bs_chk : Wd.allP (fun b => Wd.allP (fun k => cond (Nat.ble 9 k) true (Nat.ble (Wd.bs b k) 8191)) 4 0) 8 0 = true := by decide +kernel
set_option maxRecDepth 100000 in
theorem wt2_chk : Wd.allP (fun b => Wd.allP (fun t => Wd.allP (fun k => cond (Nat.ble 6 k) true (Nat.ble (Wd.wt (Wd.bs b 8) t k) 8191)) 3 0) 5 0) 8 0 = true := by decide +kernel
theorem bs_lt {b k : Nat} (hb : b < 256) (hk : k ≤ 8) : Wd.bs b k < 8192 := by
  have := Wd.all_lt (Wd.all_lt bs_chk (i := b) hb) (i := k) (by omega)
  rw [ble_f (by omega), cond_false, Nat.ble_eq] at this
  omega
theorem wt_lt {b t k : Nat} (hb : b < 256) (ht : t < 32) (hk : k ≤ 5) : Wd.wt (Wd.bs b 8) t k < 8192 := by
  have := Wd.all_lt (Wd.all_lt (Wd.all_lt wt2_chk (i := b) hb) (i := t) ht) (i := k) (by omega)
  rw [ble_f (by omega), cond_false, Nat.ble_eq] at this
  omega
def pqC : Array Value := #[.int .i64 0, .int .i64 1, .int .i64 2, .int .i64 4, .int .i64 8]
theorem pqC_get (i : Nat) (h : i < 5) : pqC[i]? = some (.int .i64 (Wd.pq i : Nat)) := by
  have e : pqC = ((List.range 5).map fun i => Value.int .i64 (Wd.pq i : Nat)).toArray := by kernel_rfl
  rw [e, List.getElem?_toArray]
  simp [h]
theorem pq_lt {i : Nat} (h : i < 5) : Wd.pq i ≤ 8 := by
  have : ∀ j : Fin 5, Wd.pq j.val ≤ 8 := by decide
  exact this ⟨i, h⟩
/-- a bit, moved to its place -/
theorem shl_bit (b p : Nat) (hb : b < 2) (hp : p ≤ 12) : wrap64 ((b : Int) * 2 ^ p) = ((b * 2 ^ p : Nat) : Int) ∧ b * 2 ^ p ≤ 4096 := by
  have h1 : (2 : Nat) ^ p ≤ 4096 := Nat.le_trans (Nat.pow_le_pow_right (n := 2) (i := p) (j := 12) (by decide) hp) (by decide)
  have h2 : b * 2 ^ p ≤ 4096 := Nat.le_trans (Nat.mul_le_mul (show b ≤ 1 by omega) h1) (by decide)
  have e : (b : Int) * 2 ^ p = ((b * 2 ^ p : Nat) : Int) := by push_cast; rfl
  refine ⟨?_, h2⟩
  rw [e]
  generalize b * 2 ^ p = X at h2 ⊢
  unfold wrap64
  omega
theorem w64add (V X : Nat) (h : V < 8192) (h2 : X ≤ 4096) : wrap64 ((V : Int) + (X : Int)) = ((V + X : Nat) : Int) := by
  unfold wrap64
  omega
theorem meas5 {k : Nat} (h : k < 5) : 5 - (intOf (.int .i64 ((k : Int) + 1))).toNat < 5 - (intOf (.int .i64 (k : Int))).toNat := by
  simp [intOf]
  omega
set_option maxRecDepth 100000 in
set_option maxHeartbeats 2000000 in
theorem wordOf_any (b : Nat) (hb : b < 256) (w : World) :
    Calls Tryd.prog 12 #[.int .u8 b] w fun e w' => e = .returned (.int .u16 (Wd.wr b : Nat)) ∧ Below w.heap.size w w' := by
  have hcell := hid_of (fun i h => (new_cell w plC 3 i).trans (plC_get i h))
  go_enter Tryd.func12, Tryd.ntmps12
  go_wp2_with fail
  go_loopw [4, 5] (fun n i w' => ∃ k m : Nat, k ≤ 8 ∧ i = .int .i64 (k : Nat) ∧ n = .int .i64 (Wd.bs b k : Nat) ∧ w' = (w.alloc (.cells plC 3)).drewN m) (fun _ i _ => 8 - (intOf i).toNat)
  case atStart => exact ⟨0, 0, by omega, rfl, rfl, rfl⟩
  case round =>
    obtain ⟨k, m, hk, rfl, rfl, rfl⟩ := hrel
    have hl := bs_lt hb hk
    by_cases hlt : k < 8
    · have hc := hcell.out k hlt
      have hpl := pl_lt hlt
      have HS := hid_of (show Wd.bs b (k + 1) = Wd.bs b k + Wd.bt b k * 2 ^ Wd.pl k from rfl)
      have hbi := bt_int b k
      have hb2 := bt_lt b k
      obtain ⟨hsh, hsl⟩ := shl_bit (Wd.bt b k) (Wd.pl k) hb2 hpl
      generalize Wd.bs b k = V at *
      generalize Wd.bt b k * 2 ^ Wd.pl k = X at *
      generalize Wd.bt b k = t at *
      generalize Wd.pl k = p at *
      go_wp2_with fail
      go_quiet (fail)
      go_wp2_with fail
      go_roundw
      case rel => exact ⟨k + 1, m + nq, by omega, by go_num, by rw [HS.out]; go_num, rfl⟩
      case measure => simp [intOf]; omega
    · obtain rfl : k = 8 := by omega
      have HBl : Hid (Below w.heap.size w (((w.alloc (.cells plC 3)).drewN m).alloc (.cells pqC 3))) := (below_drewN ((Below.refl _ w).alloc (Nat.le_refl _) _) m).alloc (by simp) _
      have hsz : ((w.alloc (.cells plC 3)).drewN m).heap.size = w.heap.size + 1 := by show (w.heap.push _).size = _; simp
      have hcq := hid_of (fun i h => (new_cell ((w.alloc (.cells plC 3)).drewN m) pqC 3 i).trans (pqC_get i h))
      rw [hsz] at hcq
      have HW := hid_of (show Wd.wf (Wd.bs b 8) 32 0 = Wd.wr b from Nat.eq_of_beq_eq_true (Wd.all_lt Wd.wf_chk (i := b) hb))
      have HL := hid_of (fun t k ht hk => wt_lt (b := b) (t := t) (k := k) hb ht hk)
      have HF := hid_of (fun f t => show Wd.wf (Wd.bs b 8) (f + 1) t = cond (Wd.rg (Wd.wt (Wd.bs b 8) t 5)) (Wd.wt (Wd.bs b 8) t 5) (Wd.wf (Wd.bs b 8) f (t + 1)) from rfl)
      have HF0 := hid_of (fun t => show Wd.wf (Wd.bs b 8) 0 t = 0 from rfl)
      generalize hBv : Wd.bs b 8 = B at *
      clear hcell hsz hk
      go_wp2_with fail
      go_loopw [7] (fun i w' => ∃ t m' : Nat, t ≤ 32 ∧ i = .int .i64 (t : Nat) ∧ Hid (Wd.wf B (32 - t) t = Wd.wr b) ∧ w' = (((w.alloc (.cells plC 3)).drewN m).alloc (.cells pqC 3)).drewN m') (fun i _ => 32 - (intOf i).toNat)
      case atStart => exact ⟨0, 0, by omega, rfl, HW.out, rfl⟩
      case round =>
        obtain ⟨t, m', ht, rfl, HT, rfl⟩ := hrel
        by_cases htl : t < 32
        · go_wp2_with fail
          go_loopw [8, 9] (fun v i w' => ∃ k m2 : Nat, k ≤ 5 ∧ i = .int .i64 (k : Nat) ∧ v = .int .i64 (Wd.wt B t k : Nat) ∧ w' = (((w.alloc (.cells plC 3)).drewN m).alloc (.cells pqC 3)).drewN m2) (fun _ i _ => 5 - (intOf i).toNat)
          case atStart => exact ⟨0, m', by omega, rfl, rfl, rfl⟩
          case round =>
            obtain ⟨k, m2, hk, rfl, rfl, rfl⟩ := hrel
            have hl := HL.out t k htl hk
            by_cases hlt : k < 5
            · have hc := hcq.out k hlt
              have hpl := pq_lt hlt
              have HS := hid_of (show Wd.wt B t (k + 1) = Wd.wt B t k + Wd.bt t k * 2 ^ Wd.pq k from rfl)
              have hbi := bt_int t k
              have hb2 := bt_lt t k
              obtain ⟨hsh, hsl⟩ := shl_bit (Wd.bt t k) (Wd.pq k) hb2 (by omega)
              generalize Wd.wt B t k = V at *
              generalize Wd.bt t k * 2 ^ Wd.pq k = X at *
              generalize Wd.bt t k = q at *
              generalize Wd.pq k = p at *
              have HVX := hid_of (w64add V X hl hsl)
              go_wp2_with fail
              go_quiet (fail)
              go_wp2_with fail
              go_roundw
              case rel => exact ⟨k + 1, m2 + nq, hlt, rfl, by rw [HS.out, HVX.out], rfl⟩
              case measure => exact meas5 hlt
            · obtain rfl : k = 5 := by omega
              have hr := hid_of (fun W => right_any (Wd.wt B t 5) (by omega) W)
              have hwc : (Wd.wt B t 5 : Int) % 65536 = (Wd.wt B t 5 : Nat) := by omega
              obtain ⟨f, hf⟩ : ∃ f, 32 - t = f + 1 := ⟨31 - t, by omega⟩
              have HT2 := hid_of HT.out
              rw [hf, HF.out f t] at HT2
              have HFF := hid_of (show f = 32 - (t + 1) by omega)
              clear hf
              generalize Wd.wt B t 5 = V at *
              cases hrg : Wd.rg V with
              | true =>
                rw [hrg] at hr HT2
                have HV := hid_of (show V = Wd.wr b from HT2.out)
                clear hrg
                go_wp2_with fail
                refine (hr.out _).mono ?_
                rintro e w1 ⟨rfl, rfl⟩
                go_wp2_with fail
                go_ret
                exact ⟨ret_int (by rw [HV.out]), below_drewN HBl.out _⟩
              | false =>
                rw [hrg] at hr HT2
                have HV := hid_of (show Wd.wf B (32 - (t + 1)) (t + 1) = Wd.wr b by rw [← HFF.out]; exact HT2.out)
                clear hrg
                go_wp2_with fail
                refine (hr.out _).mono ?_
                rintro e w1 ⟨rfl, rfl⟩
                go_wp2_with fail
                refine ⟨?_, ?measure⟩
                · repeat apply Exists.intro
                  refine ⟨?rel2, rfl⟩
                  exact ⟨t + 1, m2, by omega, by go_num, HV.out, rfl⟩
                · simp [intOf]; omega
        · obtain rfl : t = 32 := by omega
          have HZ := hid_of (show 0 = Wd.wr b by rw [← HF0.out 32]; exact HT.out)
          go_wp2_with fail
          go_ret
          exact ⟨ret_int (by rw [← HZ.out]; rfl), below_drewN HBl.out _⟩
end Go.Proofs.YtiiickinlklelaaDoor
