/- Begin, and Hear as it is written. -/
import Derived.Test.YtbmbnbhedalcnabXn
namespace Go.Proofs.Ytbmbnbhedalcnab
open Go.RowKit
theorem qE_m {L : List Int} {need : Int} (h : qE L need = 0) : L.length ≤ 12 ∧ 0 < L.length ∧ anyB L = false ∧ 1 ≤ need ∧ need ≤ totK L L.length ∧ totK L L.length < 2 * need := by
  unfold qE at h
  by_cases h1 : wE L ≠ 0
  · rw [if_pos h1] at h; exact absurd h h1
  · have h1 : wE L = 0 := by omega
    rw [h1, if_neg (by decide)] at h
    unfold wE at h1
    have h2 : L.length ≤ 12 ∧ 0 < L.length ∧ anyB L = false := by
      by_cases e1 : L.length = 0
      · rw [if_pos e1] at h1; omega
      · rw [if_neg e1] at h1
        by_cases e2 : 12 < L.length
        · rw [if_pos e2] at h1; omega
        · rw [if_neg e2] at h1
          cases e3 : anyB L with
          | false => exact ⟨by omega, by omega, rfl⟩
          | true => rw [e3, if_pos rfl] at h1; omega
    refine ⟨h2.1, h2.2.1, h2.2.2, ?_⟩
    by_cases e1 : need < 1 ∨ totK L L.length < need
    · rw [if_pos e1] at h; omega
    · rw [if_neg e1] at h
      by_cases e2 : 2 * need ≤ totK L L.length
      · rw [if_pos e2] at h; omega
      · omega
theorem cbid_q {m : Nat} {g : Nat → List Value} {need a p : Int} {o v : ByteArray} {t w : Int} {s : ByteArray} {hd : Int} (h : x_cbid m g need a p o v t w s hd = 0) : qE (wsOf m g) need = 0 := by
  unfold x_cbid at h
  cases e : (qE (wsOf m fun j => g j) need != (0 : Int)) with
  | true => rw [e] at h; simp at h; exact h
  | false => exact eq_of_bne e
theorem bchk_q {a p : Int} {o v : ByteArray} {t w : Int} {s : ByteArray} {hd : Int} {m : Nat} {g : Nat → List Value} {need no : Int} (h : (x_bchk a p o v t w s hd m g need no != (0 : Int)) = false) : x_num no = true ∧ x_cbid m g need a p o v t w s hd = 0 := by
  have h := eq_of_bne h
  unfold x_bchk at h
  cases e : x_num no with
  | false => rw [e] at h; simp at h
  | true => rw [e] at h; simp at h; exact ⟨rfl, h⟩
theorem bchk_m {a p : Int} {o v : ByteArray} {t w : Int} {s : ByteArray} {hd : Int} {m : Nat} {g : Nat → List Value} {need no : Int} (h : (x_bchk a p o v t w s hd m g need no != (0 : Int)) = false) : m ≤ 12 := by
  have := (qE_m (cbid_q (bchk_q h).2)).1
  rw [ws_len] at this
  exact this
-- @file xo.out
def x0_begin (m : Nat) (g : Nat → List Value) (need : Int) (no : Int) (tm : Int) (o : ByteArray) : Int := (bif x_bchk tm (1 : Int) o { data := { toList := [] } } (0 : Int) (0 : Int) { data := { toList := [] } } (0 : Int) m (fun j => g j) need no != (0 : Int) then (0 : Int) else (tm))
def x1_begin (m : Nat) (g : Nat → List Value) (need : Int) (no : Int) (tm : Int) (o : ByteArray) : Int := (bif x_bchk tm (1 : Int) o { data := { toList := [] } } (0 : Int) (0 : Int) { data := { toList := [] } } (0 : Int) m (fun j => g j) need no != (0 : Int) then (0 : Int) else (1 : Int))
def x2_begin (m : Nat) (g : Nat → List Value) (need : Int) (no : Int) (tm : Int) (o : ByteArray) : ByteArray := (bif x_bchk tm (1 : Int) o { data := { toList := [] } } (0 : Int) (0 : Int) { data := { toList := [] } } (0 : Int) m (fun j => g j) need no != (0 : Int) then ({ data := { toList := [] } }) else (o))
def x3_begin (m : Nat) (g : Nat → List Value) (need : Int) (no : Int) (tm : Int) (o : ByteArray) : ByteArray := (bif x_bchk tm (1 : Int) o { data := { toList := [] } } (0 : Int) (0 : Int) { data := { toList := [] } } (0 : Int) m (fun j => g j) need no != (0 : Int) then ({ data := { toList := [] } }) else ({ data := { toList := [] } }))
def x4_begin (m : Nat) (g : Nat → List Value) (need : Int) (no : Int) (tm : Int) (o : ByteArray) : Int := (bif x_bchk tm (1 : Int) o { data := { toList := [] } } (0 : Int) (0 : Int) { data := { toList := [] } } (0 : Int) m (fun j => g j) need no != (0 : Int) then (0 : Int) else (0 : Int))
def x5_begin (m : Nat) (g : Nat → List Value) (need : Int) (no : Int) (tm : Int) (o : ByteArray) : Int := (bif x_bchk tm (1 : Int) o { data := { toList := [] } } (0 : Int) (0 : Int) { data := { toList := [] } } (0 : Int) m (fun j => g j) need no != (0 : Int) then (0 : Int) else (0 : Int))
def x6_begin (m : Nat) (g : Nat → List Value) (need : Int) (no : Int) (tm : Int) (o : ByteArray) : ByteArray := (bif x_bchk tm (1 : Int) o { data := { toList := [] } } (0 : Int) (0 : Int) { data := { toList := [] } } (0 : Int) m (fun j => g j) need no != (0 : Int) then ({ data := { toList := [] } }) else ({ data := { toList := [] } }))
def x7_begin (m : Nat) (g : Nat → List Value) (need : Int) (no : Int) (tm : Int) (o : ByteArray) : Int := (bif x_bchk tm (1 : Int) o { data := { toList := [] } } (0 : Int) (0 : Int) { data := { toList := [] } } (0 : Int) m (fun j => g j) need no != (0 : Int) then (0 : Int) else (0 : Int))
def n8_begin (m : Nat) (g : Nat → List Value) (need : Int) (no : Int) (tm : Int) (o : ByteArray) : Nat := (bif x_bchk tm (1 : Int) o { data := { toList := [] } } (0 : Int) (0 : Int) { data := { toList := [] } } (0 : Int) m (fun j => g j) need no != (0 : Int) then (0) else (m))
def g8_begin (m : Nat) (g : Nat → List Value) (need : Int) (no : Int) (tm : Int) (o : ByteArray) : Nat → List Value := (bif x_bchk tm (1 : Int) o { data := { toList := [] } } (0 : Int) (0 : Int) { data := { toList := [] } } (0 : Int) m (fun j => g j) need no != (0 : Int) then (fun _ => []) else (toC (1 : Int) tm no { data := #[] }))
def x9_begin (m : Nat) (g : Nat → List Value) (need : Int) (no : Int) (tm : Int) (o : ByteArray) : Int := (bif x_bchk tm (1 : Int) o { data := { toList := [] } } (0 : Int) (0 : Int) { data := { toList := [] } } (0 : Int) m (fun j => g j) need no != (0 : Int) then (x_bchk tm (1 : Int) o { data := { toList := [] } } (0 : Int) (0 : Int) { data := { toList := [] } } (0 : Int) m (fun j => g j) need no) else (0 : Int))
theorem run_begin (m : Nat) (g : Nat → List Value) (need : Int) (no : Int) (tm : Int) (o : ByteArray) : evR K18 noL Try.f15 [.agg ⟨[.slice (some ⟨0, 0, some 0⟩) m m, .int .i64 need]⟩, .int .i64 no, .int .i64 tm, .string o] [.recs wtK m g] [.agg [.val, .val, .val, .val, .val, .val, .val, .val], .one .val, .one .val] [.val (.int .i64 (x0_begin m g need no tm o)), .val (.int .i64 (x1_begin m g need no tm o)), .val (.string (x2_begin m g need no tm o)), .val (.string (x3_begin m g need no tm o)), .val (.int .i64 (x4_begin m g need no tm o)), .val (.int .i64 (x5_begin m g need no tm o)), .val (.string (x6_begin m g need no tm o)), .val (.int .u64 (x7_begin m g need no tm o)), .rows 29 vtK (n8_begin m g need no tm o) (g8_begin m g need no tm o), .val (.int .i64 (x9_begin m g need no tm o))] = Out.ask (m ≤ m ∧ m ≤ (140737488355328 : Nat)) (tst (x_bchk tm (1 : Int) o { data := { toList := [] } } (0 : Int) (0 : Int) { data := { toList := [] } } (0 : Int) m (fun j => g j) need no != (0 : Int)) (Out.ask ((Value.int IntKind.i64 (0 : Int) : Value) = .int .i64 (x0_begin m g need no tm o)) (Out.ask ((Value.int IntKind.i64 (0 : Int) : Value) = .int .i64 (x1_begin m g need no tm o)) (Out.ask ((Value.string { data := { toList := [] } } : Value) = .string (x2_begin m g need no tm o)) (Out.ask ((Value.string { data := { toList := [] } } : Value) = .string (x3_begin m g need no tm o)) (Out.ask ((Value.int IntKind.i64 (0 : Int) : Value) = .int .i64 (x4_begin m g need no tm o)) (Out.ask ((Value.int IntKind.i64 (0 : Int) : Value) = .int .i64 (x5_begin m g need no tm o)) (Out.ask ((Value.string { data := { toList := [] } } : Value) = .string (x6_begin m g need no tm o)) (Out.ask ((Value.int IntKind.u64 (0 : Int) : Value) = .int .u64 (x7_begin m g need no tm o)) (Out.ask ((n8_begin m g need no tm o : Nat) = 0) (Out.ask ((Value.int IntKind.i64 (x_bchk tm (1 : Int) o { data := { toList := [] } } (0 : Int) (0 : Int) { data := { toList := [] } } (0 : Int) m (fun j => g j) need no) : Value) = .int .i64 (x9_begin m g need no tm o)) (Out.done .ret ⟨[], []⟩))))))))))) (Out.ask (m ≤ m ∧ m ≤ (140737488355328 : Nat)) (Out.ask (aAll [CA.val (Value.int IntKind.i64 tm), CA.val (Value.int IntKind.i64 (1 : Int)), CA.val (Value.string o), CA.val (Value.string { data := { toList := [] } }), CA.val (Value.int IntKind.i64 (0 : Int)), CA.val (Value.int IntKind.i64 (0 : Int)), CA.val (Value.string { data := { toList := [] } }), CA.val (Value.int IntKind.u64 (0 : Int)), CA.rows wtK m fun j => g j, CA.val (Value.int IntKind.i64 need), CA.val (Value.int IntKind.i64 no), CA.val (Value.int IntKind.i64 (1 : Int)), CA.val (Value.string { data := { toList := [] } })]) (Out.ask ((Value.int IntKind.i64 tm : Value) = .int .i64 (x0_begin m g need no tm o)) (Out.ask ((Value.int IntKind.i64 (1 : Int) : Value) = .int .i64 (x1_begin m g need no tm o)) (Out.ask ((Value.string o : Value) = .string (x2_begin m g need no tm o)) (Out.ask ((Value.string { data := { toList := [] } } : Value) = .string (x3_begin m g need no tm o)) (Out.ask ((Value.int IntKind.i64 (0 : Int) : Value) = .int .i64 (x4_begin m g need no tm o)) (Out.ask ((Value.int IntKind.i64 (0 : Int) : Value) = .int .i64 (x5_begin m g need no tm o)) (Out.ask ((Value.string { data := { toList := [] } } : Value) = .string (x6_begin m g need no tm o)) (Out.ask ((Value.int IntKind.u64 (0 : Int) : Value) = .int .u64 (x7_begin m g need no tm o)) (Out.ask ((m) = n8_begin m g need no tm o ∧ (m) ≤ (m) ∧ ∀ j, j < n8_begin m g need no tm o → norm vtK ((toC (1 : Int) tm no { data := #[] }) j) = norm vtK (g8_begin m g need no tm o j)) (Out.ask ((Value.int IntKind.i64 (0 : Int) : Value) = .int .i64 (x9_begin m g need no tm o)) (Out.done .ret ⟨[], []⟩)))))))))))))) := by kernel_rfl
def g_begin : List CA → Option (List RC)
  | [.rows _ m g, .val (.int .i64 need), .val (.int .i64 no), .val (.int .i64 tm), .val (.string o)] => some [.val (.int .i64 (x0_begin m g need no tm o)), .val (.int .i64 (x1_begin m g need no tm o)), .val (.string (x2_begin m g need no tm o)), .val (.string (x3_begin m g need no tm o)), .val (.int .i64 (x4_begin m g need no tm o)), .val (.int .i64 (x5_begin m g need no tm o)), .val (.string (x6_begin m g need no tm o)), .val (.int .u64 (x7_begin m g need no tm o)), .rows 29 vtK (n8_begin m g need no tm o) (g8_begin m g need no tm o), .val (.int .i64 (x9_begin m g need no tm o))]
  | _ => none
theorem f_begin : FOk K18.P 15 (listG [.agg [.rows wtK, .val], .one .val, .one .val, .one .val] [.agg [.val, .val, .val, .val, .val, .val, .val, .val], .one .val, .one .val] g_begin) := list_g K18_ok Try.func15 rfl rfl (no_loops rfl) fun cas rs _hb _hk h => by
  unfold g_begin at h
  split at h
  · rename_i sh0 m g need no tm o
    have e0 := kind_rows (i := 0) _hk rfl rfl
    have hbm := bnd_rows (i := 0) _hb rfl
    subst e0
    cases h
    show (evR K18 noL _ [.agg ⟨[.slice (some ⟨0, 0, some 0⟩) m m, .int .i64 need]⟩, .int .i64 no, .int .i64 tm, .string o] [.recs wtK m g] [.agg [.val, .val, .val, .val, .val, .val, .val, .val], .one .val, .one .val] _).sat _
    rw [run_begin]
    exact sat_ask (by first | omega | exact ⟨Nat.le_refl _, by assumption⟩ | exact ⟨rfl, rfl⟩ | exact bchk_m h0 | simp_all) (sat_tst (fun h0 => sat_ask (by simp only [x0_begin, h0, cond_true]) (sat_ask (by simp only [x1_begin, h0, cond_true]) (sat_ask (by simp only [x2_begin, h0, cond_true]) (sat_ask (by simp only [x3_begin, h0, cond_true]) (sat_ask (by simp only [x4_begin, h0, cond_true]) (sat_ask (by simp only [x5_begin, h0, cond_true]) (sat_ask (by simp only [x6_begin, h0, cond_true]) (sat_ask (by simp only [x7_begin, h0, cond_true]) (sat_ask (by simp only [n8_begin, h0, cond_true]) (sat_ask (by simp only [x9_begin, h0, cond_true]) (sat_end))))))))))) (fun h0 => sat_ask (by first | omega | exact ⟨Nat.le_refl _, by assumption⟩ | exact ⟨rfl, rfl⟩ | exact bchk_m h0 | simp_all) (sat_ask (by first | omega | exact ⟨Nat.le_refl _, by assumption⟩ | exact ⟨rfl, rfl⟩ | exact bchk_m h0 | simp_all) (sat_ask (by simp only [x0_begin, h0, cond_false]) (sat_ask (by simp only [x1_begin, h0, cond_false]) (sat_ask (by simp only [x2_begin, h0, cond_false]) (sat_ask (by simp only [x3_begin, h0, cond_false]) (sat_ask (by simp only [x4_begin, h0, cond_false]) (sat_ask (by simp only [x5_begin, h0, cond_false]) (sat_ask (by simp only [x6_begin, h0, cond_false]) (sat_ask (by simp only [x7_begin, h0, cond_false]) (sat_ask ⟨by simp only [n8_begin, h0, cond_false], Nat.le_refl _, fun j _ => by simp only [g8_begin, h0, cond_false]⟩ (sat_ask (by simp only [x9_begin, h0, cond_false]) (sat_end))))))))))))))
  · cases h
-- @end
-- @file xo.chain
noncomputable def K19 : Kn := K18.addF 15 (listG [.agg [.rows wtK, .val], .one .val, .one .val, .one .val] [.agg [.val, .val, .val, .val, .val, .val, .val, .val], .one .val, .one .val] g_begin)
theorem K19_ok : K19.Ok := K18_ok.addF f_begin
-- @end
noncomputable def K20 : Kn := K19.addM 36 (inl K19 noL Try.f36)
theorem K20_ok : K20.Ok := K19_ok.addM (inl_ok K19_ok Try.func36 rfl rfl (no_loops rfl))
end Go.Proofs.Ytbmbnbhedalcnab
