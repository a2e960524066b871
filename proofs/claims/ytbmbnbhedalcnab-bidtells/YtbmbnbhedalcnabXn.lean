/- What a bidder asks of itself, by symbolic runs. -/
import Derived.Test.YtbmbnbhedalcnabXm
namespace Go.Proofs.Ytbmbnbhedalcnab
open Go.RowKit
-- @file xn.out
theorem run_bchk (a : Int) (p : Int) (o : ByteArray) (v : ByteArray) (t : Int) (w : Int) (s : ByteArray) (hd : Int) (m : Nat) (g : Nat → List Value) (need : Int) (no : Int) : evV K17 noL Try.f34 [.agg ⟨[.int .i64 a, .int .i64 p, .string o, .string v, .int .i64 t, .int .i64 w, .string s, .int .u64 hd, .slice (some ⟨0, 0, some 0⟩) m m, .int .i64 need, .int .i64 no]⟩] [.recs wtK m g] = tst (!x_num no) (Out.done AE.ret { slots := [some (Value.int IntKind.i64 (3 : Int))], heap := [] }) (Out.ask (m ≤ m ∧ m ≤ (140737488355328 : Nat)) (Out.done AE.ret { slots := [some (Value.int IntKind.i64 (x_cbid m (fun j => g j) need a p o v t w s hd))], heap := [] })) := by kernel_rfl
def x_bchk (a : Int) (p : Int) (o : ByteArray) (v : ByteArray) (t : Int) (w : Int) (s : ByteArray) (hd : Int) (m : Nat) (g : Nat → List Value) (need : Int) (no : Int) : Int := (bif !x_num no then (3 : Int) else (x_cbid m (fun j => g j) need a p o v t w s hd))
def g_bchk : List CA → Option Value
  | [.val (.int .i64 a), .val (.int .i64 p), .val (.string o), .val (.string v), .val (.int .i64 t), .val (.int .i64 w), .val (.string s), .val (.int .u64 hd), .rows _ m g, .val (.int .i64 need), .val (.int .i64 no)] => some (.int .i64 (x_bchk a p o v t w s hd m g need no))
  | _ => none
theorem q_bchk : QOk K17.P 34 (listC [.agg [.val, .val, .val, .val, .val, .val, .val, .val, .rows wtK, .val, .val]] g_bchk) := list_q K17_ok Try.func34 rfl rfl (no_loops rfl) fun cas r hb hk h => by
  unfold g_bchk at h
  split at h
  · rename_i a p o v t w s hd sh0 m g need no
    obtain ⟨_, _, _, _, _, _, _, _, rfl, _, _, -⟩ := hk
    obtain ⟨hbm, -⟩ := hb
    cases h
    refine ⟨rfl, ?_⟩
    show (evV K17 noL _ [.agg ⟨[.int .i64 a, .int .i64 p, .string o, .string v, .int .i64 t, .int .i64 w, .string s, .int .u64 hd, .slice (some ⟨0, 0, some 0⟩) m m, .int .i64 need, .int .i64 no]⟩] [.recs wtK m g]).sat _
    rw [run_bchk]
    exact sat_tst (fun h0 => leaf_v (by simp only [x_bchk, h0, cond_true])) (fun h0 => sat_ask (by first | omega | exact ⟨Nat.le_refl _, by assumption⟩ | exact ⟨rfl, rfl⟩ | simp_all) (leaf_v (by simp only [x_bchk, h0, cond_false])))
  · cases h
theorem run_wait (a : Int) (p : Int) (o : ByteArray) (v : ByteArray) (t : Int) (w : Int) (s : ByteArray) (hd : Int) (m : Nat) (g : Nat → List Value) (need : Int) (no : Int) (k : Int) (bd : Int) (n : Int) (x : Int) (y : Int) (z : ByteArray) : evV K17 noL Try.f35 [.agg ⟨[.int .i64 a, .int .i64 p, .string o, .string v, .int .i64 t, .int .i64 w, .string s, .int .u64 hd, .slice (some ⟨0, 0, some 0⟩) m m, .int .i64 need, .int .i64 no]⟩, .agg ⟨[.int .i64 k, .int .i64 bd, .int .i64 n, .int .i64 x, .int .i64 y, .string z]⟩] [.recs wtK m g] = tst (bd != no) (Out.done AE.ret { slots := [some (Value.bool false)], heap := [] }) (tst (decide (n ≥ (↑m : Int))) (Out.done AE.ret { slots := [some (Value.bool false)], heap := [] }) (Out.ask ((0 : Int) ≤ n) (tst (IntKind.wrap IntKind.u64 (↑(BitVec.toNat (BitVec.ofInt (IntKind.bits IntKind.u64) (shrV IntKind.u64 hd n) &&& BitVec.ofInt (IntKind.bits IntKind.u64) (1 : Int))) : Int) == (1 : Int)) (Out.done AE.ret { slots := [some (Value.bool false)], heap := [] }) (tst (p == (1 : Int)) (Out.done AE.ret { slots := [some (Value.bool (k == (2 : Int)))], heap := [] }) (tst (p == (2 : Int)) (tst (k == (4 : Int)) (Out.ask (m ≤ m ∧ m ≤ (140737488355328 : Nat)) (Out.done AE.ret { slots := [some (Value.bool (bif true then decide (x = x0_bat a ∧ y = x1_bat no) else !decide (x = x0_bat a ∧ y = x1_bat no)))], heap := [] })) (Out.done AE.ret { slots := [some (Value.bool false)], heap := [] })) (Out.done AE.ret { slots := [some (Value.bool false)], heap := [] })))))) := by kernel_rfl
def x_wait (a : Int) (p : Int) (hd : Int) (m : Nat) (no : Int) (k : Int) (bd : Int) (n : Int) (x : Int) (y : Int) : Bool := (bif bd != no then (false) else (bif decide (n ≥ (↑m : Int)) then (false) else (bif IntKind.wrap IntKind.u64 (↑(BitVec.toNat (BitVec.ofInt (IntKind.bits IntKind.u64) (shrV IntKind.u64 hd n) &&& BitVec.ofInt (IntKind.bits IntKind.u64) (1 : Int))) : Int) == (1 : Int) then (false) else (bif p == (1 : Int) then (k == (2 : Int)) else (bif p == (2 : Int) then (bif k == (4 : Int) then (bif true then decide (x = x0_bat a ∧ y = x1_bat no) else !decide (x = x0_bat a ∧ y = x1_bat no)) else (false)) else (false))))))
def g_wait : List CA → Option Value
  | [.val (.int .i64 a), .val (.int .i64 p), .val (.string _), .val (.string _), .val (.int .i64 _), .val (.int .i64 _), .val (.string _), .val (.int .u64 hd), .rows _ m _, .val (.int .i64 _), .val (.int .i64 no), .val (.agg ⟨[.int .i64 k, .int .i64 bd, .int .i64 n, .int .i64 x, .int .i64 y, .string _]⟩)] => some (.bool (x_wait a p hd m no k bd n x y))
  | _ => none
def a_wait (l : List CA) : Prop :=
  match nthL l 11 with
  | some (.val (.agg ⟨[_, _, .int _ n, _, _, _]⟩)) => 0 ≤ n
  | _ => False
theorem q_wait : QOk K17.P 35 (listA [.agg [.val, .val, .val, .val, .val, .val, .val, .val, .rows wtK, .val, .val], .one .val] a_wait g_wait) := list_qA K17_ok Try.func35 rfl rfl (no_loops rfl) fun cas r hb hk ha h => by
  unfold g_wait at h
  split at h
  · rename_i a p o v t w s hd sh0 m g need no k bd n x y z
    obtain ⟨_, _, _, _, _, _, _, _, rfl, _, _, _, -⟩ := hk
    obtain ⟨hbm, -⟩ := hb
    have ha : 0 ≤ n := ha
    cases h
    refine ⟨rfl, ?_⟩
    show (evV K17 noL _ [.agg ⟨[.int .i64 a, .int .i64 p, .string o, .string v, .int .i64 t, .int .i64 w, .string s, .int .u64 hd, .slice (some ⟨0, 0, some 0⟩) m m, .int .i64 need, .int .i64 no]⟩, .agg ⟨[.int .i64 k, .int .i64 bd, .int .i64 n, .int .i64 x, .int .i64 y, .string z]⟩] [.recs wtK m g]).sat _
    rw [run_wait]
    exact sat_tst (fun h0 => leaf_v (by simp only [x_wait, h0, cond_true])) (fun h0 => sat_tst (fun h1 => leaf_v (by simp only [x_wait, h0, h1, cond_true, cond_false])) (fun h1 => sat_ask (by first | omega | exact ⟨Nat.le_refl _, by assumption⟩ | exact ⟨rfl, rfl⟩ | simp_all) (sat_tst (fun h2 => leaf_v (by simp only [x_wait, h0, h1, h2, cond_true, cond_false])) (fun h2 => sat_tst (fun h3 => leaf_v (by simp only [x_wait, h0, h1, h2, h3, cond_true, cond_false])) (fun h3 => sat_tst (fun h4 => sat_tst (fun h5 => sat_ask (by first | omega | exact ⟨Nat.le_refl _, by assumption⟩ | exact ⟨rfl, rfl⟩ | simp_all) (leaf_v (by simp only [x_wait, h0, h1, h2, h3, h4, h5, cond_true, cond_false]))) (fun h5 => leaf_v (by simp only [x_wait, h0, h1, h2, h3, h4, h5, cond_true, cond_false]))) (fun h4 => leaf_v (by simp only [x_wait, h0, h1, h2, h3, h4, cond_false])))))))
  · cases h
theorem run_choice (a : Int) (p : Int) (o : ByteArray) (v : ByteArray) (t : Int) (w : Int) (s : ByteArray) (hd : Int) (m : Nat) (g : Nat → List Value) (need : Int) (no : Int) : evV K17 noL Try.f47 [.agg ⟨[.int .i64 a, .int .i64 p, .string o, .string v, .int .i64 t, .int .i64 w, .string s, .int .u64 hd, .slice (some ⟨0, 0, some 0⟩) m m, .int .i64 need, .int .i64 no]⟩] [.recs wtK m g] = tst (bif true then decide (t = (0 : Int) ∧ w = (0 : Int)) else !decide (t = (0 : Int) ∧ w = (0 : Int))) (Out.done AE.ret { slots := [some (Value.string o)], heap := [] }) (Out.done AE.ret { slots := [some (Value.string s)], heap := [] }) := by kernel_rfl
def x_choice (o : ByteArray) (t : Int) (w : Int) (s : ByteArray) : ByteArray := (bif bif true then decide (t = (0 : Int) ∧ w = (0 : Int)) else !decide (t = (0 : Int) ∧ w = (0 : Int)) then (o) else (s))
def g_choice : List CA → Option Value
  | [.val (.int .i64 _), .val (.int .i64 _), .val (.string o), .val (.string _), .val (.int .i64 t), .val (.int .i64 w), .val (.string s), .val (.int .u64 _), .rows _ _ _, .val (.int .i64 _), .val (.int .i64 _)] => some (.string (x_choice o t w s))
  | _ => none
theorem q_choice : QOk K17.P 47 (listC [.agg [.val, .val, .val, .val, .val, .val, .val, .val, .rows wtK, .val, .val]] g_choice) := list_q K17_ok Try.func47 rfl rfl (no_loops rfl) fun cas r hb hk h => by
  unfold g_choice at h
  split at h
  · rename_i a p o v t w s hd sh0 m g need no
    obtain ⟨_, _, _, _, _, _, _, _, rfl, _, _, -⟩ := hk
    obtain ⟨hbm, -⟩ := hb
    cases h
    refine ⟨rfl, ?_⟩
    show (evV K17 noL _ [.agg ⟨[.int .i64 a, .int .i64 p, .string o, .string v, .int .i64 t, .int .i64 w, .string s, .int .u64 hd, .slice (some ⟨0, 0, some 0⟩) m m, .int .i64 need, .int .i64 no]⟩] [.recs wtK m g]).sat _
    rw [run_choice]
    exact sat_tst (fun h0 => leaf_v (by simp only [x_choice, h0, cond_true])) (fun h0 => leaf_v (by simp only [x_choice, h0, cond_false]))
  · cases h
-- @end
-- @file xn.chain
noncomputable def K18 : Kn := ((K17.addQ 34 (listC [.agg [.val, .val, .val, .val, .val, .val, .val, .val, .rows wtK, .val, .val]] g_bchk)).addQ 35 (listA [.agg [.val, .val, .val, .val, .val, .val, .val, .val, .rows wtK, .val, .val], .one .val] a_wait g_wait)).addQ 47 (listC [.agg [.val, .val, .val, .val, .val, .val, .val, .val, .rows wtK, .val, .val]] g_choice)
theorem K18_ok : K18.Ok := ((K17_ok.addQ q_bchk).addQ q_wait).addQ q_choice
-- @end
end Go.Proofs.Ytbmbnbhedalcnab
