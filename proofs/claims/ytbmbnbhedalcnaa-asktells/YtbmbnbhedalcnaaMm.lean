/- What a node answers, by the reference. -/
import Derived.Test.YtbmbnbhedalcnaaMi
namespace Go.Proofs.Ytbmbnbhedalcnaa
open Go.RowKit
-- @file mm.out
def x0_rsv (t : Int) (w : Int) (s : ByteArray) (mk : Int) (mo : Int) (n : Int) (x : Int) (y : Int) (z : ByteArray) : Int := (bif x_rcc t w s == (0 : Int) then (bif x_rmchk mk mo n x y z != (0 : Int) then (0 : Int) else (bif mk == (1 : Int) then (t) else (bif mk == (3 : Int) then (x0_rstore t w s x y z) else (t)))) else (bif x_rcc t w s != (0 : Int) then (0 : Int) else (bif mk == (1 : Int) then (t) else (bif mk == (3 : Int) then (x0_rstore t w s x y z) else (t)))))
def x1_rsv (t : Int) (w : Int) (s : ByteArray) (mk : Int) (mo : Int) (n : Int) (x : Int) (y : Int) (z : ByteArray) : Int := (bif x_rcc t w s == (0 : Int) then (bif x_rmchk mk mo n x y z != (0 : Int) then (0 : Int) else (bif mk == (1 : Int) then (w) else (bif mk == (3 : Int) then (x1_rstore t w s x y z) else (w)))) else (bif x_rcc t w s != (0 : Int) then (0 : Int) else (bif mk == (1 : Int) then (w) else (bif mk == (3 : Int) then (x1_rstore t w s x y z) else (w)))))
def x2_rsv (t : Int) (w : Int) (s : ByteArray) (mk : Int) (mo : Int) (n : Int) (x : Int) (y : Int) (z : ByteArray) : ByteArray := (bif x_rcc t w s == (0 : Int) then (bif x_rmchk mk mo n x y z != (0 : Int) then ({ data := { toList := [] } }) else (bif mk == (1 : Int) then (s) else (bif mk == (3 : Int) then (x2_rstore t w s x y z) else (s)))) else (bif x_rcc t w s != (0 : Int) then ({ data := { toList := [] } }) else (bif mk == (1 : Int) then (s) else (bif mk == (3 : Int) then (x2_rstore t w s x y z) else (s)))))
def n3_rsv (t : Int) (w : Int) (s : ByteArray) (mk : Int) (mo : Int) (n : Int) (x : Int) (y : Int) (z : ByteArray) : Nat := (bif x_rcc t w s == (0 : Int) then (bif x_rmchk mk mo n x y z != (0 : Int) then (0) else (bif mk == (1 : Int) then (1 : Nat) else (bif mk == (3 : Int) then (1 : Nat) else (0)))) else (bif x_rcc t w s != (0 : Int) then (0) else (bif mk == (1 : Int) then (1 : Nat) else (bif mk == (3 : Int) then (1 : Nat) else (0)))))
def g3_rsv (t : Int) (w : Int) (s : ByteArray) (mk : Int) (mo : Int) (n : Int) (x : Int) (y : Int) (z : ByteArray) : Nat → List Value := (bif x_rcc t w s == (0 : Int) then (bif x_rmchk mk mo n x y z != (0 : Int) then (fun _ => []) else (bif mk == (1 : Int) then (litR [mgC 2 mo n t w s]) else (bif mk == (3 : Int) then (litR [mgC 4 mo n 0 0 ⟨#[]⟩]) else (fun _ => [])))) else (bif x_rcc t w s != (0 : Int) then (fun _ => []) else (bif mk == (1 : Int) then (litR [mgC 2 mo n t w s]) else (bif mk == (3 : Int) then (litR [mgC 4 mo n 0 0 ⟨#[]⟩]) else (fun _ => [])))))
def x4_rsv (t : Int) (w : Int) (s : ByteArray) (mk : Int) (mo : Int) (n : Int) (x : Int) (y : Int) (z : ByteArray) : Int := (bif x_rcc t w s == (0 : Int) then (bif x_rmchk mk mo n x y z != (0 : Int) then (x_rmchk mk mo n x y z) else (bif mk == (1 : Int) then (0 : Int) else (bif mk == (3 : Int) then (0 : Int) else (0 : Int)))) else (bif x_rcc t w s != (0 : Int) then (x_rcc t w s) else (bif mk == (1 : Int) then (0 : Int) else (bif mk == (3 : Int) then (0 : Int) else (0 : Int)))))
theorem run_rsv (t : Int) (w : Int) (s : ByteArray) (mk : Int) (mo : Int) (n : Int) (x : Int) (y : Int) (z : ByteArray) : evR K25 noL Try.f21 [.agg ⟨[.int .i64 t, .int .i64 w, .string s]⟩, .agg ⟨[.int .i64 mk, .int .i64 mo, .int .i64 n, .int .i64 x, .int .i64 y, .string z]⟩] [] [.agg [.val, .val, .val], .one .val, .one .val] [.val (.int .i64 (x0_rsv t w s mk mo n x y z)), .val (.int .i64 (x1_rsv t w s mk mo n x y z)), .val (.string (x2_rsv t w s mk mo n x y z)), .rows 40 [LK.kInt IntKind.i64, LK.kInt IntKind.i64, LK.kInt IntKind.i64, LK.kInt IntKind.i64, LK.kInt IntKind.i64, LK.kStr] (n3_rsv t w s mk mo n x y z) (g3_rsv t w s mk mo n x y z), .val (.int .i64 (x4_rsv t w s mk mo n x y z))] = tst (x_rcc t w s == (0 : Int)) (tst (x_rmchk mk mo n x y z != (0 : Int)) (Out.ask ((Value.int IntKind.i64 (0 : Int) : Value) = .int .i64 (x0_rsv t w s mk mo n x y z)) (Out.ask ((Value.int IntKind.i64 (0 : Int) : Value) = .int .i64 (x1_rsv t w s mk mo n x y z)) (Out.ask ((Value.string { data := { toList := [] } } : Value) = .string (x2_rsv t w s mk mo n x y z)) (Out.ask ((n3_rsv t w s mk mo n x y z : Nat) = 0) (Out.ask ((Value.int IntKind.i64 (x_rmchk mk mo n x y z) : Value) = .int .i64 (x4_rsv t w s mk mo n x y z)) (Out.done .ret ⟨[], []⟩)))))) (tst (mk == (1 : Int)) (Out.ask ((Value.int IntKind.i64 t : Value) = .int .i64 (x0_rsv t w s mk mo n x y z)) (Out.ask ((Value.int IntKind.i64 w : Value) = .int .i64 (x1_rsv t w s mk mo n x y z)) (Out.ask ((Value.string s : Value) = .string (x2_rsv t w s mk mo n x y z)) (Out.ask ((1 : Nat) = n3_rsv t w s mk mo n x y z ∧ (1 : Nat) ≤ (1 : Nat) ∧ ∀ j, j < n3_rsv t w s mk mo n x y z → norm [LK.kInt IntKind.i64, LK.kInt IntKind.i64, LK.kInt IntKind.i64, LK.kInt IntKind.i64, LK.kInt IntKind.i64, LK.kStr] ((litR [mgC 2 mo n t w s]) j) = norm [LK.kInt IntKind.i64, LK.kInt IntKind.i64, LK.kInt IntKind.i64, LK.kInt IntKind.i64, LK.kInt IntKind.i64, LK.kStr] (g3_rsv t w s mk mo n x y z j)) (Out.ask ((Value.int IntKind.i64 (0 : Int) : Value) = .int .i64 (x4_rsv t w s mk mo n x y z)) (Out.done .ret ⟨[], []⟩)))))) (tst (mk == (3 : Int)) (Out.ask ((Value.int IntKind.i64 (x0_rstore t w s x y z) : Value) = .int .i64 (x0_rsv t w s mk mo n x y z)) (Out.ask ((Value.int IntKind.i64 (x1_rstore t w s x y z) : Value) = .int .i64 (x1_rsv t w s mk mo n x y z)) (Out.ask ((Value.string (x2_rstore t w s x y z) : Value) = .string (x2_rsv t w s mk mo n x y z)) (Out.ask ((1 : Nat) = n3_rsv t w s mk mo n x y z ∧ (1 : Nat) ≤ (1 : Nat) ∧ ∀ j, j < n3_rsv t w s mk mo n x y z → norm [LK.kInt IntKind.i64, LK.kInt IntKind.i64, LK.kInt IntKind.i64, LK.kInt IntKind.i64, LK.kInt IntKind.i64, LK.kStr] ((litR [mgC 4 mo n 0 0 ⟨#[]⟩]) j) = norm [LK.kInt IntKind.i64, LK.kInt IntKind.i64, LK.kInt IntKind.i64, LK.kInt IntKind.i64, LK.kInt IntKind.i64, LK.kStr] (g3_rsv t w s mk mo n x y z j)) (Out.ask ((Value.int IntKind.i64 (0 : Int) : Value) = .int .i64 (x4_rsv t w s mk mo n x y z)) (Out.done .ret ⟨[], []⟩)))))) (Out.ask ((Value.int IntKind.i64 t : Value) = .int .i64 (x0_rsv t w s mk mo n x y z)) (Out.ask ((Value.int IntKind.i64 w : Value) = .int .i64 (x1_rsv t w s mk mo n x y z)) (Out.ask ((Value.string s : Value) = .string (x2_rsv t w s mk mo n x y z)) (Out.ask ((n3_rsv t w s mk mo n x y z : Nat) = 0) (Out.ask ((Value.int IntKind.i64 (0 : Int) : Value) = .int .i64 (x4_rsv t w s mk mo n x y z)) (Out.done .ret ⟨[], []⟩))))))))) (tst (x_rcc t w s != (0 : Int)) (Out.ask ((Value.int IntKind.i64 (0 : Int) : Value) = .int .i64 (x0_rsv t w s mk mo n x y z)) (Out.ask ((Value.int IntKind.i64 (0 : Int) : Value) = .int .i64 (x1_rsv t w s mk mo n x y z)) (Out.ask ((Value.string { data := { toList := [] } } : Value) = .string (x2_rsv t w s mk mo n x y z)) (Out.ask ((n3_rsv t w s mk mo n x y z : Nat) = 0) (Out.ask ((Value.int IntKind.i64 (x_rcc t w s) : Value) = .int .i64 (x4_rsv t w s mk mo n x y z)) (Out.done .ret ⟨[], []⟩)))))) (tst (mk == (1 : Int)) (Out.ask ((Value.int IntKind.i64 t : Value) = .int .i64 (x0_rsv t w s mk mo n x y z)) (Out.ask ((Value.int IntKind.i64 w : Value) = .int .i64 (x1_rsv t w s mk mo n x y z)) (Out.ask ((Value.string s : Value) = .string (x2_rsv t w s mk mo n x y z)) (Out.ask ((1 : Nat) = n3_rsv t w s mk mo n x y z ∧ (1 : Nat) ≤ (1 : Nat) ∧ ∀ j, j < n3_rsv t w s mk mo n x y z → norm [LK.kInt IntKind.i64, LK.kInt IntKind.i64, LK.kInt IntKind.i64, LK.kInt IntKind.i64, LK.kInt IntKind.i64, LK.kStr] ((litR [mgC 2 mo n t w s]) j) = norm [LK.kInt IntKind.i64, LK.kInt IntKind.i64, LK.kInt IntKind.i64, LK.kInt IntKind.i64, LK.kInt IntKind.i64, LK.kStr] (g3_rsv t w s mk mo n x y z j)) (Out.ask ((Value.int IntKind.i64 (0 : Int) : Value) = .int .i64 (x4_rsv t w s mk mo n x y z)) (Out.done .ret ⟨[], []⟩)))))) (tst (mk == (3 : Int)) (Out.ask ((Value.int IntKind.i64 (x0_rstore t w s x y z) : Value) = .int .i64 (x0_rsv t w s mk mo n x y z)) (Out.ask ((Value.int IntKind.i64 (x1_rstore t w s x y z) : Value) = .int .i64 (x1_rsv t w s mk mo n x y z)) (Out.ask ((Value.string (x2_rstore t w s x y z) : Value) = .string (x2_rsv t w s mk mo n x y z)) (Out.ask ((1 : Nat) = n3_rsv t w s mk mo n x y z ∧ (1 : Nat) ≤ (1 : Nat) ∧ ∀ j, j < n3_rsv t w s mk mo n x y z → norm [LK.kInt IntKind.i64, LK.kInt IntKind.i64, LK.kInt IntKind.i64, LK.kInt IntKind.i64, LK.kInt IntKind.i64, LK.kStr] ((litR [mgC 4 mo n 0 0 ⟨#[]⟩]) j) = norm [LK.kInt IntKind.i64, LK.kInt IntKind.i64, LK.kInt IntKind.i64, LK.kInt IntKind.i64, LK.kInt IntKind.i64, LK.kStr] (g3_rsv t w s mk mo n x y z j)) (Out.ask ((Value.int IntKind.i64 (0 : Int) : Value) = .int .i64 (x4_rsv t w s mk mo n x y z)) (Out.done .ret ⟨[], []⟩)))))) (Out.ask ((Value.int IntKind.i64 t : Value) = .int .i64 (x0_rsv t w s mk mo n x y z)) (Out.ask ((Value.int IntKind.i64 w : Value) = .int .i64 (x1_rsv t w s mk mo n x y z)) (Out.ask ((Value.string s : Value) = .string (x2_rsv t w s mk mo n x y z)) (Out.ask ((n3_rsv t w s mk mo n x y z : Nat) = 0) (Out.ask ((Value.int IntKind.i64 (0 : Int) : Value) = .int .i64 (x4_rsv t w s mk mo n x y z)) (Out.done .ret ⟨[], []⟩))))))))) := by kernel_rfl
def g_rsv : List CA → Option (List RC)
  | [.val (.agg ⟨[.int .i64 t, .int .i64 w, .string s]⟩), .val (.agg ⟨[.int .i64 mk, .int .i64 mo, .int .i64 n, .int .i64 x, .int .i64 y, .string z]⟩)] => some [.val (.int .i64 (x0_rsv t w s mk mo n x y z)), .val (.int .i64 (x1_rsv t w s mk mo n x y z)), .val (.string (x2_rsv t w s mk mo n x y z)), .rows 40 [LK.kInt IntKind.i64, LK.kInt IntKind.i64, LK.kInt IntKind.i64, LK.kInt IntKind.i64, LK.kInt IntKind.i64, LK.kStr] (n3_rsv t w s mk mo n x y z) (g3_rsv t w s mk mo n x y z), .val (.int .i64 (x4_rsv t w s mk mo n x y z))]
  | _ => none
theorem f_rsv : FOk K25.P 21 (listG [.one .val, .one .val] [.agg [.val, .val, .val], .one .val, .one .val] g_rsv) := list_g K25_ok Try.func21 rfl rfl (no_loops rfl) fun cas rs _hb _hk h => by
  unfold g_rsv at h
  split at h
  · rename_i t w s mk mo n x y z
    cases h
    show (evR K25 noL _ [.agg ⟨[.int .i64 t, .int .i64 w, .string s]⟩, .agg ⟨[.int .i64 mk, .int .i64 mo, .int .i64 n, .int .i64 x, .int .i64 y, .string z]⟩] [] [.agg [.val, .val, .val], .one .val, .one .val] _).sat _
    rw [run_rsv]
    exact sat_tst (fun h0 => sat_tst (fun h1 => sat_ask (by simp only [x0_rsv, h0, h1, cond_true]) (sat_ask (by simp only [x1_rsv, h0, h1, cond_true]) (sat_ask (by simp only [x2_rsv, h0, h1, cond_true]) (sat_ask (by simp only [n3_rsv, h0, h1, cond_true]) (sat_ask (by simp only [x4_rsv, h0, h1, cond_true]) (sat_end)))))) (fun h1 => sat_tst (fun h2 => sat_ask (by simp only [x0_rsv, h0, h1, h2, cond_true, cond_false]) (sat_ask (by simp only [x1_rsv, h0, h1, h2, cond_true, cond_false]) (sat_ask (by simp only [x2_rsv, h0, h1, h2, cond_true, cond_false]) (sat_ask ⟨by simp only [n3_rsv, h0, h1, h2, cond_true, cond_false], Nat.le_refl _, fun j _ => by simp only [g3_rsv, h0, h1, h2, cond_true, cond_false]⟩ (sat_ask (by simp only [x4_rsv, h0, h1, h2, cond_true, cond_false]) (sat_end)))))) (fun h2 => sat_tst (fun h3 => sat_ask (by simp only [x0_rsv, h0, h1, h2, h3, cond_true, cond_false]) (sat_ask (by simp only [x1_rsv, h0, h1, h2, h3, cond_true, cond_false]) (sat_ask (by simp only [x2_rsv, h0, h1, h2, h3, cond_true, cond_false]) (sat_ask ⟨by simp only [n3_rsv, h0, h1, h2, h3, cond_true, cond_false], Nat.le_refl _, fun j _ => by simp only [g3_rsv, h0, h1, h2, h3, cond_true, cond_false]⟩ (sat_ask (by simp only [x4_rsv, h0, h1, h2, h3, cond_true, cond_false]) (sat_end)))))) (fun h3 => sat_ask (by simp only [x0_rsv, h0, h1, h2, h3, cond_true, cond_false]) (sat_ask (by simp only [x1_rsv, h0, h1, h2, h3, cond_true, cond_false]) (sat_ask (by simp only [x2_rsv, h0, h1, h2, h3, cond_true, cond_false]) (sat_ask (by simp only [n3_rsv, h0, h1, h2, h3, cond_true, cond_false]) (sat_ask (by simp only [x4_rsv, h0, h1, h2, h3, cond_true, cond_false]) (sat_end))))))))) (fun h0 => sat_tst (fun h1 => sat_ask (by simp only [x0_rsv, h0, h1, cond_true, cond_false]) (sat_ask (by simp only [x1_rsv, h0, h1, cond_true, cond_false]) (sat_ask (by simp only [x2_rsv, h0, h1, cond_true, cond_false]) (sat_ask (by simp only [n3_rsv, h0, h1, cond_true, cond_false]) (sat_ask (by simp only [x4_rsv, h0, h1, cond_true, cond_false]) (sat_end)))))) (fun h1 => sat_tst (fun h2 => sat_ask (by simp only [x0_rsv, h0, h1, h2, cond_true, cond_false]) (sat_ask (by simp only [x1_rsv, h0, h1, h2, cond_true, cond_false]) (sat_ask (by simp only [x2_rsv, h0, h1, h2, cond_true, cond_false]) (sat_ask ⟨by simp only [n3_rsv, h0, h1, h2, cond_true, cond_false], Nat.le_refl _, fun j _ => by simp only [g3_rsv, h0, h1, h2, cond_true, cond_false]⟩ (sat_ask (by simp only [x4_rsv, h0, h1, h2, cond_true, cond_false]) (sat_end)))))) (fun h2 => sat_tst (fun h3 => sat_ask (by simp only [x0_rsv, h0, h1, h2, h3, cond_true, cond_false]) (sat_ask (by simp only [x1_rsv, h0, h1, h2, h3, cond_true, cond_false]) (sat_ask (by simp only [x2_rsv, h0, h1, h2, h3, cond_true, cond_false]) (sat_ask ⟨by simp only [n3_rsv, h0, h1, h2, h3, cond_true, cond_false], Nat.le_refl _, fun j _ => by simp only [g3_rsv, h0, h1, h2, h3, cond_true, cond_false]⟩ (sat_ask (by simp only [x4_rsv, h0, h1, h2, h3, cond_true, cond_false]) (sat_end)))))) (fun h3 => sat_ask (by simp only [x0_rsv, h0, h1, h2, h3, cond_false]) (sat_ask (by simp only [x1_rsv, h0, h1, h2, h3, cond_false]) (sat_ask (by simp only [x2_rsv, h0, h1, h2, h3, cond_false]) (sat_ask (by simp only [n3_rsv, h0, h1, h2, h3, cond_false]) (sat_ask (by simp only [x4_rsv, h0, h1, h2, h3, cond_false]) (sat_end)))))))))
  · cases h
-- @end
-- @file mm.chain
noncomputable def K26 : Kn := K25.addF 21 (listG [.one .val, .one .val] [.agg [.val, .val, .val], .one .val, .one .val] g_rsv)
theorem K26_ok : K26.Ok := K25_ok.addF f_rsv
-- @end
theorem K26_P : K26.P = Try.prog := rfl
theorem rsl_eq (a b x y : Int) : x_rsl a b x y = slt (a, b) (x, y) := by
  unfold x_rsl slt
  by_cases h : a = x
  · subst h; simp
  · have e : (a == x) = false := by simpa using h
    rw [e]
    simp [h]
theorem rsc_eq (a b : Int) : x_rsc a b = sck (a, b) := by
  unfold x_rsc sck
  by_cases h1 : a < 0
  · simp [h1]
  · by_cases h2 : 1000000 < a
    · simp [h1, h2]
    · by_cases h3 : b < 0
      · simp [h1, h2, h3]
      · by_cases h4 : 31 < b
        · simp [h1, h2, h3, h4]
        · simp [h1, h2, h3, h4]
theorem rcc_eq (t w : Int) (s : ByteArray) : x_rcc t w s = cck ((t, w), s) := by
  unfold x_rcc cck
  rw [rsc_eq]
  rcases sck_or (t, w) with h | h
  · by_cases h2 : 64 < s.size
    · have : (64 : Int) < (s.size : Int) := by omega
      simp [h, h2, this]
    · have : ¬ (64 : Int) < (s.size : Int) := by omega
      simp [h, h2, this]
  · simp [h]
section
variable {t w : Int} {s : ByteArray} {mk mo n x y : Int} {z : ByteArray}
theorem rmchk_eq : x_rmchk mk mo n x y z = x_wchk mk mo n x y z := by
  unfold x_rmchk x_wchk x_wkind
  rw [rcc_eq]
  have e1 : x_rhas mk = x_wcopy mk := rfl
  rw [e1]
  have e2 : decide (mo ≥ 31) = decide (mo > 30) := by rw [decide_eq_decide]; omega
  have e3 : decide (n ≥ 12) = decide (n > 11) := by rw [decide_eq_decide]; omega
  rw [e2, e3]
  by_cases h1 : mk < 1
  · have : ¬ 1 ≤ mk := by omega
    simp [h1, this]
  · have h1' : 1 ≤ mk := by omega
    by_cases h2 : mk > 4
    · have : ¬ mk ≤ 4 := by omega
      simp [h1, h2, h1', this]
    · have : mk ≤ 4 := by omega
      rw [decide_eq_false h1, decide_eq_true h1', decide_eq_false h2, decide_eq_true this]
      rfl
theorem store_eq (h1 : cck ((t, w), s) = 0) (h2 : cck ((x, y), z) = 0) : x0_rstore t w s x y z = x0_store t w s x y z ∧ x1_rstore t w s x y z = x1_store t w s x y z ∧ x2_rstore t w s x y z = x2_store t w s x y z := by
  unfold x0_rstore x1_rstore x2_rstore x0_store x1_store x2_store
  have hc : cks [((t, w), s), ((x, y), z)] = 0 := cks_of _ fun c hc => by
    rcases List.mem_cons.1 hc with rfl | hc
    · exact h1
    · rw [List.mem_singleton.1 hc]; exact h2
  rw [rcc_eq, rcc_eq, h1, h2, hc, rsl_eq]
  unfold ltr
  cases slt (t, w) (x, y) <;> simp
theorem rsv_eq : x0_rsv t w s mk mo n x y z = x0_serve t w s mk mo n x y z ∧ x1_rsv t w s mk mo n x y z = x1_serve t w s mk mo n x y z ∧ x2_rsv t w s mk mo n x y z = x2_serve t w s mk mo n x y z ∧ n3_rsv t w s mk mo n x y z = n3_serve t w s mk mo n x y z ∧ g3_rsv t w s mk mo n x y z = g3_serve t w s mk mo n x y z ∧ x4_rsv t w s mk mo n x y z = x4_serve t w s mk mo n x y z := by
  unfold x0_rsv x1_rsv x2_rsv n3_rsv g3_rsv x4_rsv x0_serve x1_serve x2_serve n3_serve g3_serve x4_serve
  rw [rcc_eq, rmchk_eq]
  by_cases h1 : cck ((t, w), s) = 0
  · by_cases h2 : x_wchk mk mo n x y z = 0
    · obtain ⟨s1, s2, s3⟩ := store_eq h1 (wchk_c h2).1
      rw [h1, h2, s1, s2, s3]
      exact ⟨rfl, rfl, rfl, rfl, rfl, rfl⟩
    · have e : (x_wchk mk mo n x y z != 0) = true := by simpa using h2
      rw [h1, e]
      exact ⟨rfl, rfl, rfl, rfl, rfl, rfl⟩
  · have e : (cck ((t, w), s) != 0) = true := by simpa using h1
    have e' : (cck ((t, w), s) == 0) = false := by simpa using h1
    rw [e, e']
    exact ⟨rfl, rfl, rfl, rfl, rfl, rfl⟩
theorem n3_le : n3_serve t w s mk mo n x y z ≤ 1 := by
  unfold n3_serve
  cases cck ((t, w), s) != 0 <;> cases x_wchk mk mo n x y z != 0 <;> cases mk == 1 <;> cases mk == 3 <;> decide
end
end Go.Proofs.Ytbmbnbhedalcnaa
