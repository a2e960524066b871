/- Turn, by symbolic runs. -/
import Derived.Test.YtnpdpbiikejflaaEh
namespace Go.Proofs.Ytnpdpbiikejflaa
open Go.RowKit
theorem run_cl (m : Nat) (g : Nat → List Value) : evR K14 noL Try.f21 [.slice (some ⟨0, 0, some 0⟩) m m] [.recs ekK m g] [.one .val] [.rows 25 ekK m g] =
    Out.all fun c => tst (Nat.beq m 0 && Nat.beq c 0) (Out.ask ((m : Nat) = 0) (.done .ret ⟨[], []⟩))
      (Out.ask ((0 : Nat) ≤ 0) (Out.ask (m ≤ m ∧ m ≤ 140737488355328) (Out.ask ((0 + m) * 16 ≤ 140737488355328) (Out.ask (0 + m = m ∧ 0 + m ≤ 0 + m ∧ ∀ j, j < m → norm ekK (joinG 0 (litR []) (fun j => g (j + 0)) j) = norm ekK (g j)) (.done .ret ⟨[], []⟩))))) := by kernel_rfl
theorem join_lo {n : Nat} {a b : Nat → List Value} {j : Nat} (h : j < n) : joinG n a b j = a j := by
  unfold joinG
  rw [show Nat.blt j n = true from by rw [Nat.blt_eq]; exact h]
  rfl
theorem join_hi {n : Nat} {a b : Nat → List Value} {j : Nat} (h : n ≤ j) : joinG n a b j = b (j - n) := by
  unfold joinG
  rw [show Nat.blt j n = false from by
    cases e : Nat.blt j n with
    | false => rfl
    | true => rw [Nat.blt_eq] at e; omega]
  rfl
theorem f_cl : FOk K14.P 21 (listF [.one (.rows ekK)] [.one .val] aCl gCl) := list_f K14_ok Try.func21 rfl rfl (no_loops rfl) fun cas rs hb hk ha h => by
  unfold gCl at h
  split at h
  · rename_i sh0 m g
    have := kind_rows (i := 0) hk rfl rfl
    subst this
    have ha : m ≤ 64 := ha
    cases h
    show (evR K14 noL _ [.slice (some ⟨0, 0, some 0⟩) m m] [.recs ekK m g] [.one .val] _).sat _
    rw [run_cl]
    intro c
    refine sat_tst (fun h1 => sat_ask ?_ sat_end) fun h1 => sat_ask (Nat.le_refl _) (sat_ask ⟨Nat.le_refl _, by omega⟩ (sat_ask (by omega) (sat_ask ⟨by omega, Nat.le_refl _, fun j hj => by rw [join_hi (Nat.zero_le _)]; rfl⟩ sat_end)))
    rw [Bool.and_eq_true, Nat.beq_eq] at h1
    exact h1.1
  · cases h
theorem K15_ok : K15.Ok := K14_ok.addF f_cl
abbrev tuNil (m : Nat) (g : Nat → List Value) (n : Int) (e : Int) : Out := .ask (tuN m g n = 0) (.ask ((.int .i64 e : Value) = .int .i64 (tuE m g n)) (.done .ret ⟨[], []⟩))
abbrev tuAll (m : Nat) (g : Nat → List Value) (n : Int) (x : Int) : Out := .ask (m + 1 = tuN m g n ∧ m + 1 ≤ m + 1 ∧ ∀ j, j < tuN m g n → norm ekK (joinG m (fun j => g j) (litR [[.int .i64 (IntKind.wrap .i64 ((m : Int) + 1)), .int .u64 x]]) j) = norm ekK (tuG m g n j)) (.ask ((.int .i64 0 : Value) = .int .i64 (tuE m g n)) (.done .ret ⟨[], []⟩))
abbrev tuW (m : Nat) : Int := IntKind.wrap .i64 ((m : Int) - 1)
theorem run_tu (m : Nat) (g : Nat → List Value) (n : Int) : evR K15 noL Try.f8 [.slice (some ⟨0, 0, some 0⟩) m m, .int .i64 n] [.recs ekK m g] [.one .val, .one .val] [.rows 25 ekK (tuN m g n) (tuG m g n), .val (.int .i64 (tuE m g n))] =
    Out.ask (m ≤ m ∧ m ≤ 140737488355328) (Out.ask (aCk [CA.rows ekK m fun j => g j]) (tst ((chE m fun j => g j) != 0) (tuNil m g n (chE m g)) (tst ((m : Int) == 0) (tuNil m g n 5) (tst (decide (n < 0)) (tuNil m g n 3) (tst (decide (n ≥ 12)) (tuNil m g n 3) (tst ((m : Int) == 64) (tuNil m g n 2)
      (Out.ask (0 ≤ tuW m ∧ tuW m < (m : Int)) (Out.ask ((tuW m).toNat + 0 < m) (Out.ask (0 ≤ n) (tst (xorI (me (g ((tuW m).toNat + 0))) (shlV .u64 1 n) == 0) (tuNil m g n 8)
        (Out.ask (m ≤ m ∧ m ≤ 140737488355328) (Out.ask (aCl [CA.rows ekK m fun j => g j]) (Out.ask (m ≤ m) (Out.ask (1 ≤ 1 ∧ 1 ≤ 140737488355328) (Out.ask ((m + 1) * 16 ≤ 140737488355328) (tuAll m g n (xorI (me (g ((tuW m).toNat + 0))) (shlV .u64 1 n)))))))))))))))))) := by kernel_rfl
theorem firstE_last {g : Nat → List Value} {m : Nat} (h : firstE g m = 0) (h0 : 0 < m) : errAt g (m - 1) = 0 := (firstE_all h (m - 1) (by omega)).1
theorem err_lt {g : Nat → List Value} {j : Nat} (h : errAt g j = 0) : no (g j) = (j : Int) + 1 ∧ me (g j) < 4096 ∧ me (g j) ≠ 0 := by
  by_cases h1 : no (g j) = (j : Int) + 1
  · by_cases h2 : 4096 ≤ me (g j)
    · rw [err3 h1 h2] at h; exact absurd h (by decide)
    · by_cases h3 : me (g j) = 0
      · rw [err8 h1 h3] at h; exact absurd h (by decide)
      · exact ⟨h1, by omega, h3⟩
  · rw [err4 h1] at h; exact absurd h (by decide)
theorem sub_xor {a n : Nat} (ha : a < 18446744073709551616) (hn : n < 64) (h : a.testBit n = false) : a + 2 ^ n = a ^^^ 2 ^ n := by
  have hp : 2 ^ n < 18446744073709551616 := Nat.pow_lt_pow_right (a := 2) (n := 64) (by decide) hn
  have hz : a &&& 2 ^ n = 0 := by
    apply Nat.eq_of_testBit_eq
    intro i
    rw [Nat.testBit_and, Nat.testBit_two_pow, Nat.zero_testBit]
    by_cases e : n = i
    · subst e; rw [h]; rfl
    · rw [decide_eq_false e, Bool.and_false]
  have ea : (BitVec.ofNat 64 a).toNat = a := by rw [BitVec.toNat_ofNat]; exact Nat.mod_eq_of_lt ha
  have ep : (BitVec.ofNat 64 (2 ^ n)).toNat = 2 ^ n := by rw [BitVec.toNat_ofNat]; exact Nat.mod_eq_of_lt hp
  have hb : BitVec.ofNat 64 a &&& BitVec.ofNat 64 (2 ^ n) = 0#64 := by
    apply BitVec.eq_of_toNat_eq
    rw [BitVec.toNat_and, ea, ep, hz]
    rfl
  have h1 := BitVec.toNat_add_of_and_eq_zero hb
  rw [BitVec.add_eq_or_of_and_eq_zero _ _ hb, BitVec.toNat_or, ea, ep] at h1
  rw [← h1]
  apply Nat.eq_of_testBit_eq
  intro i
  rw [Nat.testBit_or, Nat.testBit_xor, Nat.testBit_two_pow]
  by_cases e : n = i
  · subst e; rw [h]; simp
  · rw [decide_eq_false e]; simp
theorem xor_bit {a n : Nat} : (a ^^^ 2 ^ n).testBit n = !a.testBit n := by
  rw [Nat.testBit_xor, Nat.testBit_two_pow, decide_eq_true rfl]
  simp
theorem xor_twice (a b : Nat) : (a ^^^ b) ^^^ b = a := by rw [Nat.xor_assoc, Nat.xor_self, Nat.xor_zero]
theorem tuE_1 {m : Nat} {g : Nat → List Value} {n : Int} (h : (chE m g != 0) = true) : tuE m g n = chE m g := by unfold tuE; rw [h]; rfl
theorem tuE_2 {m : Nat} {g : Nat → List Value} {n : Int} (h : (chE m g != 0) = false) (h2 : m = 0) : tuE m g n = 5 := by unfold tuE; rw [h]; subst h2; rfl
theorem tuE_3 {m : Nat} {g : Nat → List Value} {n : Int} (h : (chE m g != 0) = false) (h2 : m ≠ 0) : tuE m g n = bif decide (n < 0) then 3 else bif decide (n ≥ 12) then 3 else bif Nat.beq m 64 then 2 else bif tuX m g n == 0 then 8 else 0 := by
  unfold tuE
  rw [h, show Nat.beq m 0 = false from by cases m; exact absurd rfl h2; rfl]
  rfl
theorem nbeq {a b : Nat} (h : a ≠ b) : Nat.beq a b = false := by
  cases e : Nat.beq a b with
  | false => rfl
  | true => exact absurd (Nat.eq_of_beq_eq_true e) h
theorem nil_ok {m : Nat} {g : Nat → List Value} {n e : Int} (h : tuE m g n = e) (h0 : e ≠ 0) : (tuNil m g n e).sat fun _ _ => True := by
  refine sat_ask ?_ (sat_ask (by rw [h]) sat_end)
  unfold tuN
  rw [show (tuE m g n != 0) = true by rw [h]; simpa using h0]
  rfl
theorem all_ok {m : Nat} {g : Nat → List Value} {n x : Int} (h : tuE m g n = 0) (hm : m ≤ 64) (hx : x = tuX m g n) : (tuAll m g n x).sat fun _ _ => True := by
  subst hx
  have e : tuN m g n = m + 1 := by unfold tuN; rw [h]; rfl
  refine sat_ask ⟨e.symm, Nat.le_refl _, fun j hj => ?_⟩ (sat_ask (by rw [h]) sat_end)
  rw [e] at hj
  unfold tuG
  by_cases hq : j = m
  · subst hq
    rw [join_hi (Nat.le_refl _), Nat.sub_self, show Nat.beq j j = true from Nat.beq_refl j, wrap_inc (by omega)]
    rfl
  · rw [join_lo (by omega), nbeq hq]
    rfl
theorem f_tu : FOk K15.P 8 (listF [.one (.rows ekK), vK] [.one .val, .one .val] aRow1 gTu) := list_f K15_ok Try.func8 rfl rfl (no_loops rfl) fun cas rs hb hk ha h => by
  unfold gTu at h
  split at h
  · rename_i sh0 m g n
    have := kind_rows (i := 0) hk rfl rfl
    subst this
    have hbm := bnd_rows (i := 0) hb rfl
    have ha : RU m g := ha
    cases h
    show (evR K15 noL _ [.slice (some ⟨0, 0, some 0⟩) m m, .int .i64 n] [.recs ekK m g] [.one .val, .one .val] _).sat _
    rw [run_tu]
    have eta : (chE m fun j => g j) = chE m g := rfl
    rw [eta]
    refine sat_ask ⟨Nat.le_refl _, hbm⟩ (sat_ask ha (sat_tst (fun h0 => nil_ok (tuE_1 h0) (by simpa using h0)) fun h0 => sat_tst (fun h1 => nil_ok (tuE_2 h0 (by simpa using h1)) (by decide)) fun h1 => ?_))
    have h1 : m ≠ 0 := by simpa using h1
    obtain ⟨hm, hf⟩ := chE_le h0
    have e3 := tuE_3 (n := n) h0 h1
    have ep : tuW m = ((m - 1 : Nat) : Int) := pred_at (by omega) (by omega)
    refine sat_tst (fun h2 => nil_ok (by rw [e3, h2]; rfl) (by decide)) fun h2 => sat_tst (fun h3 => nil_ok (by rw [e3, h2, h3]; rfl) (by decide)) fun h3 => sat_tst (fun h4 => nil_ok (by rw [e3, h2, h3, show m = 64 from by have : (m : Int) = 64 := (by simpa using h4); omega]; rfl) (by decide)) fun h4 => ?_
    have h4 : m ≠ 64 := by
      have : (m : Int) ≠ 64 := by simpa using h4
      omega
    rw [h2, h3, nbeq h4] at e3
    have h2 := of_decide_eq_false h2
    have h3 := of_decide_eq_false h3
    refine sat_ask ⟨by omega, by omega⟩ (sat_ask (by rw [ep]; show m - 1 + 0 < m; omega) (sat_ask (by omega) ?_))
    have ex : xorI (me (g ((tuW m).toNat + 0))) (shlV .u64 1 n) = tuX m g n := by unfold tuX; rw [ep]; rfl
    rw [ex]
    refine sat_tst (fun h5 => nil_ok (by rw [e3, h5]; rfl) (by decide)) fun h5 => ?_
    exact sat_ask ⟨Nat.le_refl _, hbm⟩ (sat_ask hm (sat_ask (Nat.le_refl _) (sat_ask ⟨by decide, by decide⟩ (sat_ask (by omega) (all_ok (by rw [e3, h5]; rfl) hm rfl)))))
  · cases h
theorem K16_ok : K16.Ok := K15_ok.addF f_tu
abbrev rtX (m : Nat) (g : Nat → List Value) : Int := me (g ((tuW m).toNat + 0))
abbrev rtEnd (m : Nat) (g : Nat → List Value) (n x : Int) : Out := tst (x == 0) (tuNil m g n 8) (.ask (0 ≤ 0) (Out.ask (m ≤ m ∧ m ≤ 140737488355328) (Out.ask ((0 + m) * 16 ≤ 140737488355328) (Out.ask (0 + m ≤ 0 + m) (Out.ask (1 ≤ 1 ∧ 1 ≤ 140737488355328) (Out.ask ((0 + m + 1) * 16 ≤ 140737488355328) (.ask (0 + m + 1 = tuN m g n ∧ 0 + m + 1 ≤ 0 + m + 1 ∧ ∀ j, j < tuN m g n → norm ekK (joinG (0 + m) (joinG 0 (litR []) fun j => g (j + 0)) (litR [[.int .i64 (IntKind.wrap .i64 ((m : Int) + 1)), .int .u64 x]]) j) = norm ekK (tuG m g n j)) (.ask ((.int .i64 0 : Value) = .int .i64 (tuE m g n)) (.done .ret ⟨[], []⟩)))))))))
theorem run_rt (m : Nat) (g : Nat → List Value) (n : Int) : evR K16 noL Try.f11 [.slice (some ⟨0, 0, some 0⟩) m m, .int .i64 n] [.recs ekK m g] [.one .val, .one .val] [.rows 25 ekK (tuN m g n) (tuG m g n), .val (.int .i64 (tuE m g n))] =
    Out.ask (m ≤ m ∧ m ≤ 140737488355328) (Out.ask (aCk [CA.rows ekK m fun j => g j]) (tst ((chE m fun j => g j) != 0) (tuNil m g n (chE m g)) (tst ((m : Int) == 0) (tuNil m g n 5) (tst (decide (n < 0)) (tuNil m g n 3) (tst (decide (n > 11)) (tuNil m g n 3) (tst ((m : Int) == 64) (tuNil m g n 2)
      (Out.ask (0 ≤ tuW m ∧ tuW m < (m : Int)) (Out.ask ((tuW m).toNat + 0 < m) (Out.ask (aIn [.val (.int .u64 (rtX m g)), .val (.int .i64 n)]) (tst ((rtX m g).toNat.testBit n.toNat) (Out.ask (0 ≤ n) (rtEnd m g n (IntKind.wrap .u64 (rtX m g - shlV .u64 1 n)))) (Out.ask (0 ≤ n) (rtEnd m g n (IntKind.wrap .u64 (rtX m g + shlV .u64 1 n)))))))))))))) := by kernel_rfl
theorem f_rt : FOk K16.P 11 (listF [.one (.rows ekK), vK] [.one .val, .one .val] aRow1 gTu) := list_f K16_ok Try.func11 rfl rfl (no_loops rfl) fun cas rs hb hk ha h => by
  unfold gTu at h
  split at h
  · rename_i sh0 m g n
    have := kind_rows (i := 0) hk rfl rfl
    subst this
    have hbm := bnd_rows (i := 0) hb rfl
    have ha : RU m g := ha
    cases h
    show (evR K16 noL _ [.slice (some ⟨0, 0, some 0⟩) m m, .int .i64 n] [.recs ekK m g] [.one .val, .one .val] _).sat _
    rw [run_rt]
    have eta : (chE m fun j => g j) = chE m g := rfl
    rw [eta]
    refine sat_ask ⟨Nat.le_refl _, hbm⟩ (sat_ask ha (sat_tst (fun h0 => nil_ok (tuE_1 h0) (by simpa using h0)) fun h0 => sat_tst (fun h1 => nil_ok (tuE_2 h0 (by simpa using h1)) (by decide)) fun h1 => ?_))
    have h1 : m ≠ 0 := by simpa using h1
    obtain ⟨hm, hf⟩ := chE_le h0
    have e3 := tuE_3 (n := n) h0 h1
    have ep : tuW m = ((m - 1 : Nat) : Int) := pred_at (by omega) (by omega)
    refine sat_tst (fun h2 => nil_ok (by rw [e3, h2]; rfl) (by decide)) fun h2 => sat_tst (fun h3 => nil_ok (by rw [e3, h2, show decide (n ≥ 12) = true from decide_eq_true (by have := of_decide_eq_true h3; omega)]; rfl) (by decide)) fun h3 => sat_tst (fun h4 => nil_ok (by rw [e3, h2, show decide (n ≥ 12) = false from decide_eq_false (by have := of_decide_eq_false h3; omega), show m = 64 from by have : (m : Int) = 64 := (by simpa using h4); omega]; rfl) (by decide)) fun h4 => ?_
    have h4 : m ≠ 64 := by
      have : (m : Int) ≠ 64 := by simpa using h4
      omega
    rw [h2, show decide (n ≥ 12) = false from decide_eq_false (by have := of_decide_eq_false h3; omega), nbeq h4] at e3
    have h2 := of_decide_eq_false h2
    have h3 := of_decide_eq_false h3
    obtain ⟨b, rfl⟩ : ∃ b : Nat, n = b := ⟨n.toNat, by omega⟩
    have hb12 : b < 12 := by omega
    have hl := (err_lt (firstE_last hf (by omega))).2.1
    have hu := ha (m - 1) (by omega)
    obtain ⟨a, ea, ha64⟩ := hu.nat
    have hp : 2 ^ b < 4096 := Nat.pow_lt_pow_right (a := 2) (n := 12) (by decide) hb12
    have er : rtX m g = (a : Int) := by show me (g ((tuW m).toNat + 0)) = _; rw [ep]; exact ea
    have et : tuX m g b = ((a ^^^ 2 ^ b : Nat) : Int) := by
      unfold tuX
      rw [ea, shl_nat (by omega), xorI_nat ha64 (by omega)]
    have close : ∀ x, x = tuX m g b → (rtEnd m g b x).sat fun _ _ => True := fun x hx => by
      subst hx
      refine sat_tst (fun h5 => nil_ok (by rw [e3, h5]; rfl) (by decide)) fun h5 => ?_
      have h : tuE m g b = 0 := by rw [e3, h5]; rfl
      refine sat_ask (Nat.le_refl _) (sat_ask ⟨Nat.le_refl _, hbm⟩ (sat_ask (by omega) (sat_ask (Nat.le_refl _) (sat_ask ⟨by decide, by decide⟩ (sat_ask (by omega) ?_)))))
      have e : tuN m g b = m + 1 := by unfold tuN; rw [h]; rfl
      refine sat_ask ⟨by rw [e]; omega, Nat.le_refl _, fun j hj => ?_⟩ (sat_ask (by rw [h]) sat_end)
      rw [e] at hj
      unfold tuG
      by_cases hq : j = m
      · subst hq
        rw [join_hi (by omega), show j - (0 + j) = 0 by omega, show Nat.beq j j = true from Nat.beq_refl j, wrap_inc (by omega)]
        rfl
      · rw [join_lo (by omega), join_hi (Nat.zero_le _), nbeq hq]
        rfl
    refine sat_ask ⟨by omega, by omega⟩ (sat_ask (by rw [ep]; show m - 1 + 0 < m; omega) (sat_ask ⟨by rw [er]; exact U_of ha64, by omega⟩ ?_))
    rw [er]
    refine sat_tst (fun h5 => sat_ask (by omega) (close _ ?_)) fun h5 => sat_ask (by omega) (close _ ?_)
    · rw [et, shl_nat (by omega)]
      have h5 : a.testBit b = true := h5
      have e := sub_xor (a := a ^^^ 2 ^ b) (n := b) (Nat.xor_lt_two_pow (n := 64) ha64 (by show 2 ^ b < 18446744073709551616; omega)) (by omega) (by rw [xor_bit, h5]; rfl)
      rw [xor_twice] at e
      have hp0 := Nat.two_pow_pos b
      rw [show (a : Int) - ((2 ^ b : Nat) : Int) = ((a ^^^ 2 ^ b : Nat) : Int) by omega]
      exact wrap_nat (by omega)
    · rw [et, shl_nat (by omega)]
      have h5 : a.testBit b = false := h5
      have e := sub_xor ha64 (show b < 64 by omega) h5
      rw [← e]
      exact addU_nat (by omega)
  · cases h
theorem K17_ok : K17.Ok := K16_ok.addF f_rt
end Go.Proofs.Ytnpdpbiikejflaa
