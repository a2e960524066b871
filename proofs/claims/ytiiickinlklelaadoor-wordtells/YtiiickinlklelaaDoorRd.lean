/- What Read of package word answers, for every word. -/
import Derived.Test.YtiiickinlklelaaDoorFt
namespace Go.Proofs.YtiiickinlklelaaDoor
open Go.ChangeShapes Go.WideShapes Go.ChangeAt Go.RowKit
theorem ble_t {a b : Nat} (h : a ≤ b) : Nat.ble a b = true := by rw [Nat.ble_eq]; exact h
theorem ble_f {a b : Nat} (h : ¬ a ≤ b) : Nat.ble a b = false := by
  rw [Bool.eq_false_iff]
  intro c
  rw [Nat.ble_eq] at c
  exact h c
/-- how many bits were mended: -1, 0 or 1 -/
def rm (R : Nat) : Int := (Wd.rn R : Int) - 1
theorem below_drewN {n : Nat} {w W : World} (h : Below n w W) (k : Nat) : Below n w (W.drewN k) := ⟨h.os, h.tape, h.output, h.size, h.block⟩
set_option maxRecDepth 100000 in
set_option maxHeartbeats 1000000 in
theorem read_any (R : Nat) (hR : R < 65536) (w : World) (hG : Gl w) :
    Calls Tryd.prog 4 #[.int .u16 R] w fun e W' => e = .returned (.tuple #[.int .u8 (Wd.rb R : Nat), .int .i64 (rm R)]) ∧ Below w.heap.size w W' := by
  have hsz := hG.sz
  have hfa := hid_of (fault_any R hR w hG)
  have HG := hid_of hG
  have ho := hid_of (fun W => odd_any R W hR)
  have hbo := hid_of (fun W (h : Gl W) => byteOf_any R W hR h)
  have HB := hid_of (show Wd.rb R = cond (Nat.ble 8192 R) 0 (Wd.rb1 R (Wd.ft R)) from rfl)
  have HN := hid_of (show Wd.rn R = cond (Nat.ble 8192 R) 0 (Wd.rn1 R (Wd.ft R)) from rfl)
  clear hG
  by_cases hge : 8192 ≤ R
  · have e1 : Wd.rb R = 0 := by rw [HB.out, ble_t hge]; rfl
    have e2 : rm R = -1 := by unfold rm; rw [HN.out, ble_t hge]; rfl
    rw [e1, e2]
    clear e1 e2 HB HN
    go_enter Tryd.func4, Tryd.ntmps4
    go_wp2_with fail
    refine hfa.out.mono ?_
    rintro e w1 ⟨rfl, hb1⟩
    go_wp2_with fail
    go_ret2
    exact ⟨rfl, hb1⟩
  · have hn : Nat.ble 8192 R = false := ble_f hge
    have HB' := hid_of (show Wd.rb R = Wd.rb1 R (Wd.ft R) by rw [HB.out, hn]; rfl)
    have HN' := hid_of (show Wd.rn R = Wd.rn1 R (Wd.ft R) by rw [HN.out, hn]; rfl)
    clear HB HN hn
    generalize hF : Wd.ft R = F at *
    clear hF
    have hlt : R < 8192 := by omega
    cases hO : Wd.od R with
    | false =>
      rw [hO] at ho
      by_cases hz : F = 0
      · subst hz
        have e1 : Wd.rb R = Wd.bo R 8 := by rw [HB'.out]; unfold Wd.rb1; rw [hO]; rfl
        have e2 : rm R = 0 := by unfold rm; rw [HN'.out]; unfold Wd.rn1; rw [hO]; rfl
        rw [e1, e2]
        clear e1 e2 HB' HN' hO
        go_enter Tryd.func4, Tryd.ntmps4
        go_wp2_with fail
        refine hfa.out.mono ?_
        rintro e w1 ⟨rfl, hb1⟩
        go_wp2_with fail
        refine (ho.out _).mono ?_
        rintro e w2 ⟨rfl, n, rfl⟩
        have hb2 := below_drewN hb1 n
        go_wp2_with fail
        refine (hbo.out _ (HG.out.below hsz hb2)).mono ?_
        rintro e w3 ⟨rfl, rfl⟩
        go_wp2_with fail
        go_ret2
        exact ⟨rfl, hb2⟩
      · have hz' : ((F : Int) == 0) = false := by simp; omega
        have e1 : Wd.rb R = 0 := by rw [HB'.out]; unfold Wd.rb1; rw [hO, beqz hz]; rfl
        have e2 : rm R = -1 := by unfold rm; rw [HN'.out]; unfold Wd.rn1; rw [hO, beqz hz]; rfl
        rw [e1, e2]
        clear e1 e2 HB' HN' hO
        go_enter Tryd.func4, Tryd.ntmps4
        go_wp2_with fail
        refine hfa.out.mono ?_
        rintro e w1 ⟨rfl, hb1⟩
        go_wp2_with fail
        refine (ho.out _).mono ?_
        rintro e w2 ⟨rfl, n, rfl⟩
        go_wp2_with fail
        refine (ho.out _).mono ?_
        rintro e w2 ⟨rfl, m, rfl⟩
        go_wp2_with fail
        go_ret2
        exact ⟨rfl, below_drewN hb1 (n + m)⟩
    | true =>
      rw [hO] at ho
      by_cases hz : F < 13
      · have hnb : Nat.ble 13 F = false := ble_f (by omega)
        have e1 : Wd.rb R = Wd.bo (R ^^^ 2 ^ F) 8 := by rw [HB'.out]; unfold Wd.rb1; rw [hO, hnb]; rfl
        have e2 : rm R = 1 := by unfold rm; rw [HN'.out]; unfold Wd.rn1; rw [hO, hnb]; rfl
        rw [e1, e2]
        have hp : (2 : Nat) ^ F < 65536 := Nat.pow_lt_pow_right (m := F) (n := 16) (by decide) (by omega)
        have hX : R ^^^ 2 ^ F < 65536 := Nat.xor_lt_two_pow (n := 16) hR hp
        have hxr : bits .xor .u16 (R : Int) (IntKind.u16.wrap (2 ^ F)) = ((R ^^^ 2 ^ F : Nat) : Int) := by
          have e : IntKind.u16.wrap (2 ^ F) = ((2 ^ F : Nat) : Int) := by
            have e1 : (2 : Int) ^ F = ((2 ^ F : Nat) : Int) := by push_cast; rfl
            rw [e1, IntKind.wrap_u16]
            clear e1
            generalize (2 : Nat) ^ F = P at hp ⊢
            omega
          rw [e]
          exact u16_xor_nat R (2 ^ F) hR hp
        generalize R ^^^ 2 ^ F = X at *
        clear e1 e2 HB' HN' hO hnb hbo hp
        go_enter Tryd.func4, Tryd.ntmps4
        go_wp2_with fail
        refine hfa.out.mono ?_
        rintro e w1 ⟨rfl, hb1⟩
        go_wp2_with fail
        refine (ho.out _).mono ?_
        rintro e w2 ⟨rfl, n, rfl⟩
        go_wp2_with fail
        refine (ho.out _).mono ?_
        rintro e w2 ⟨rfl, m, rfl⟩
        have hb2 := below_drewN hb1 (n + m)
        go_wp2_with fail
        refine (byteOf_any X _ hX (HG.out.below hsz hb2)).mono ?_
        rintro e w3 ⟨rfl, rfl⟩
        go_wp2_with fail
        go_ret2
        exact ⟨rfl, hb2⟩
      · have hnb : Nat.ble 13 F = true := ble_t (by omega)
        have e1 : Wd.rb R = 0 := by rw [HB'.out]; unfold Wd.rb1; rw [hO, hnb]; rfl
        have e2 : rm R = -1 := by unfold rm; rw [HN'.out]; unfold Wd.rn1; rw [hO, hnb]; rfl
        rw [e1, e2]
        clear e1 e2 HB' HN' hO hnb
        go_enter Tryd.func4, Tryd.ntmps4
        go_wp2_with fail
        refine hfa.out.mono ?_
        rintro e w1 ⟨rfl, hb1⟩
        go_wp2_with fail
        refine (ho.out _).mono ?_
        rintro e w2 ⟨rfl, n, rfl⟩
        go_wp2_with fail
        refine (ho.out _).mono ?_
        rintro e w2 ⟨rfl, m, rfl⟩
        go_wp2_with fail
        go_ret2
        exact ⟨rfl, below_drewN hb1 (n + m)⟩
end Go.Proofs.YtiiickinlklelaaDoor
