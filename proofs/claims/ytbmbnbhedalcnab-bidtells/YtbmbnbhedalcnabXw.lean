/- What a seat answers by the reference. -/
import Derived.Test.YtbmbnbhedalcnabXv
namespace Go.Proofs.Ytbmbnbhedalcnab
open Go.RowKit
abbrev seA (a b t w : Int) (s : ByteArray) : Value := .agg ⟨[.int .i64 a, .int .i64 b, .int .i64 t, .int .i64 w, .string s]⟩
abbrev voA (k bd n x y : Int) (z : ByteArray) : Value := .agg ⟨[.int .i64 k, .int .i64 bd, .int .i64 n, .int .i64 x, .int .i64 y, .string z]⟩
section
variable (a b t w : Int) (s : ByteArray) (k bd n x y : Int) (z : ByteArray)
abbrev leafW (p q t' w' : Int) (s' : ByteArray) (r : Out → Out) (e : Int) : Out :=
  .ask ((.int .i64 p : Value) = .int .i64 (x0_serve a b t w s k bd n x y z)) (.ask ((.int .i64 q : Value) = .int .i64 (x1_serve a b t w s k bd n x y z)) (.ask ((.int .i64 t' : Value) = .int .i64 (x2_serve a b t w s k bd n x y z)) (.ask ((.int .i64 w' : Value) = .int .i64 (x3_serve a b t w s k bd n x y z)) (.ask ((.string s' : Value) = .string (x4_serve a b t w s k bd n x y z))
    (r (.ask ((.int .i64 e : Value) = .int .i64 (x6_serve a b t w s k bd n x y z)) (.done .ret ⟨[], []⟩)))))))
abbrev noW (o : Out) : Out := .ask (n5_serve a b t w s k bd n x y z = 0) o
abbrev oneW (v : List Value) (o : Out) : Out := .ask (1 = n5_serve a b t w s k bd n x y z ∧ 1 ≤ 1 ∧ ∀ j, j < n5_serve a b t w s k bd n x y z → norm vtK (litR [v] j) = norm vtK (g5_serve a b t w s k bd n x y z j)) o
abbrev stayW : Out := leafW a b t w s k bd n x y z a b t w s (noW a b t w s k bd n x y z) 0
abbrev errW (e : Int) : Out := leafW a b t w s k bd n x y z 0 0 0 0 ⟨#[]⟩ (noW a b t w s k bd n x y z) e
abbrev thirdW : Out := tst (k == 3) (tst (!x_rsl x y a b) (leafW a b t w s k bd n x y z x y x y z (oneW a b t w s k bd n x y z (vtC 4 bd n x y ⟨#[]⟩)) 0) (stayW a b t w s k bd n x y z)) (stayW a b t w s k bd n x y z)
abbrev restW : Out := tst (k == 1) (tst (x_rsl a b x y) (leafW a b t w s k bd n x y z x y t w s (oneW a b t w s k bd n x y z (vtC 2 bd n t w s)) 0) (thirdW a b t w s k bd n x y z)) (thirdW a b t w s k bd n x y z)
theorem run_rserve : evR K24 noL Try.f7 [seA a b t w s, voA k bd n x y z] [] [.agg [.val, .val, .val, .val, .val], .one .val, .one .val] [.val (.int .i64 (x0_serve a b t w s k bd n x y z)), .val (.int .i64 (x1_serve a b t w s k bd n x y z)), .val (.int .i64 (x2_serve a b t w s k bd n x y z)), .val (.int .i64 (x3_serve a b t w s k bd n x y z)), .val (.string (x4_serve a b t w s k bd n x y z)), .rows 29 vtK (n5_serve a b t w s k bd n x y z) (g5_serve a b t w s k bd n x y z), .val (.int .i64 (x6_serve a b t w s k bd n x y z))] =
    tst (x_rcs a b t w s == 0) (tst (x_rcv k bd n x y z != 0) (errW a b t w s k bd n x y z (x_rcv k bd n x y z)) (restW a b t w s k bd n x y z)) (tst (x_rcs a b t w s != 0) (errW a b t w s k bd n x y z (x_rcs a b t w s)) (restW a b t w s k bd n x y z)) := by kernel_rfl
end
theorem f_rserve : FOk K24.P 7 (listG [.one .val, .one .val] [.agg [.val, .val, .val, .val, .val], .one .val, .one .val] g_serve) := list_g K24_ok Try.func7 rfl rfl (no_loops rfl) fun cas rs _hb _hk h => by
  unfold g_serve at h
  split at h
  · rename_i a b t w s k bd n x y z
    cases h
    show (evR K24 noL _ [seA a b t w s, voA k bd n x y z] [] [.agg [.val, .val, .val, .val, .val], .one .val, .one .val] _).sat _
    rw [run_rserve, rcs_eq, rcv_eq]
    simp only [restW, thirdW, rsl_eq]
    have err1 : (x_cseat a b t w s != 0) = true → (errW a b t w s k bd n x y z (x_cseat a b t w s)).sat fun _ _ => True := fun g0 =>
      sat_ask (by simp only [x0_serve, g0, cond_true]) (sat_ask (by simp only [x1_serve, g0, cond_true]) (sat_ask (by simp only [x2_serve, g0, cond_true]) (sat_ask (by simp only [x3_serve, g0, cond_true]) (sat_ask (by simp only [x4_serve, g0, cond_true]) (sat_ask (by simp only [n5_serve, g0, cond_true]) (sat_ask (by simp only [x6_serve, g0, cond_true]) sat_end))))))
    refine sat_tst (fun h0 => ?_) (fun h0 => sat_tst (fun h1 => err1 h1) fun h1 => ?_)
    · have g0 : (x_cseat a b t w s != 0) = false := by
        have : x_cseat a b t w s = 0 := by simpa using h0
        rw [this]; rfl
      have stay : (x_cvote k bd n x y z != 0) = false → (¬ (k == 1) = true ∨ slt (a, b) (x, y) = false) → (¬ (k == 3) = true ∨ (!slt (x, y) (a, b)) = false) → (stayW a b t w s k bd n x y z).sat fun _ _ => True := fun g1 h2 h3 => by
        have key : ∀ {α : Type} (c1 c2 d : α), (bif k == 1 then (bif slt (a, b) (x, y) then c1 else (bif k == 3 then (bif !slt (x, y) (a, b) then c2 else d) else d)) else (bif k == 3 then (bif !slt (x, y) (a, b) then c2 else d) else d)) = d := fun c1 c2 d => by
          have e3 : (bif k == 3 then (bif !slt (x, y) (a, b) then c2 else d) else d) = d := by
            rcases h3 with h3 | h3
            · cases hk3 : (k == 3) with
              | true => exact absurd hk3 h3
              | false => rfl
            · rw [h3]; cases (k == 3) <;> rfl
          rw [e3]
          rcases h2 with h2 | h2
          · cases hk1 : (k == 1) with
            | true => exact absurd hk1 h2
            | false => rfl
          · rw [h2]; cases (k == 1) <;> rfl
        exact sat_ask (by simp only [x0_serve, g0, g1, cond_false, key]) (sat_ask (by simp only [x1_serve, g0, g1, cond_false, key]) (sat_ask (by simp only [x2_serve, g0, g1, cond_false, key]) (sat_ask (by simp only [x3_serve, g0, g1, cond_false, key]) (sat_ask (by simp only [x4_serve, g0, g1, cond_false, key]) (sat_ask (by simp only [n5_serve, g0, g1, cond_false, key]) (sat_ask (by simp only [x6_serve, g0, g1, cond_false, key]) sat_end))))))
      refine sat_tst (fun g1 => ?_) fun g1 => ?_
      · exact sat_ask (by simp only [x0_serve, g0, g1, cond_true, cond_false]) (sat_ask (by simp only [x1_serve, g0, g1, cond_true, cond_false]) (sat_ask (by simp only [x2_serve, g0, g1, cond_true, cond_false]) (sat_ask (by simp only [x3_serve, g0, g1, cond_true, cond_false]) (sat_ask (by simp only [x4_serve, g0, g1, cond_true, cond_false]) (sat_ask (by simp only [n5_serve, g0, g1, cond_true, cond_false]) (sat_ask (by simp only [x6_serve, g0, g1, cond_true, cond_false]) sat_end))))))
      · have third : (¬ (k == 1) = true ∨ slt (a, b) (x, y) = false) → (tst (k == 3) (tst (!slt (x, y) (a, b)) (leafW a b t w s k bd n x y z x y x y z (oneW a b t w s k bd n x y z (vtC 4 bd n x y ⟨#[]⟩)) 0) (stayW a b t w s k bd n x y z)) (stayW a b t w s k bd n x y z)).sat fun _ _ => True := fun h2 => by
          refine sat_tst (fun h3 => sat_tst (fun h4 => ?_) fun h4 => stay g1 h2 (.inr h4)) fun h3 => stay g1 h2 (.inl (by rw [h3]; decide))
          have key : ∀ {α : Type} (c1 c2 d : α), (bif k == 1 then (bif slt (a, b) (x, y) then c1 else (bif k == 3 then (bif !slt (x, y) (a, b) then c2 else d) else d)) else (bif k == 3 then (bif !slt (x, y) (a, b) then c2 else d) else d)) = c2 := fun c1 c2 d => by
            have e3 : (bif k == 3 then (bif !slt (x, y) (a, b) then c2 else d) else d) = c2 := by rw [h3, h4]; rfl
            rw [e3]
            rcases h2 with h2 | h2
            · cases hk1 : (k == 1) with
              | true => exact absurd hk1 h2
              | false => rfl
            · rw [h2]; cases (k == 1) <;> rfl
          exact sat_ask (by simp only [x0_serve, g0, g1, cond_false, key]) (sat_ask (by simp only [x1_serve, g0, g1, cond_false, key]) (sat_ask (by simp only [x2_serve, g0, g1, cond_false, key]) (sat_ask (by simp only [x3_serve, g0, g1, cond_false, key]) (sat_ask (by simp only [x4_serve, g0, g1, cond_false, key]) (sat_ask ⟨by simp only [n5_serve, g0, g1, cond_false, key], Nat.le_refl _, fun j _ => by simp only [g5_serve, g0, g1, cond_false, key]⟩ (sat_ask (by simp only [x6_serve, g0, g1, cond_false, key]) sat_end))))))
        refine sat_tst (fun h2 => sat_tst (fun h3 => ?_) fun h3 => third (.inr h3)) fun h2 => third (.inl (by rw [h2]; decide))
        exact sat_ask (by simp only [x0_serve, g0, g1, h2, h3, cond_true, cond_false]) (sat_ask (by simp only [x1_serve, g0, g1, h2, h3, cond_true, cond_false]) (sat_ask (by simp only [x2_serve, g0, g1, h2, h3, cond_true, cond_false]) (sat_ask (by simp only [x3_serve, g0, g1, h2, h3, cond_true, cond_false]) (sat_ask (by simp only [x4_serve, g0, g1, h2, h3, cond_true, cond_false]) (sat_ask ⟨by simp only [n5_serve, g0, g1, h2, h3, cond_true, cond_false], Nat.le_refl _, fun j _ => by simp only [g5_serve, g0, g1, h2, h3, cond_true, cond_false]⟩ (sat_ask (by simp only [x6_serve, g0, g1, h2, h3, cond_true, cond_false]) sat_end))))))
    · exfalso
      have h0 : x_cseat a b t w s ≠ 0 := by simpa using h0
      have h1 : x_cseat a b t w s = 0 := by simpa using h1
      exact h0 h1
  · cases h
noncomputable def K25 : Kn := K24.addF 7 (listG [.one .val, .one .val] [.agg [.val, .val, .val, .val, .val], .one .val, .one .val] g_serve)
theorem K25_ok : K25.Ok := K24_ok.addF f_rserve
end Go.Proofs.Ytbmbnbhedalcnab
