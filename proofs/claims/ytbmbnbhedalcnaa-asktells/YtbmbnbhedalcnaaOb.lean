/- Begin, the latest of copies, the stamp above, by the reference. -/
import Derived.Test.YtbmbnbhedalcnaaOa
namespace Go.Proofs.Ytbmbnbhedalcnaa
open Go.RowKit
-- @file nd.out
def x0_rbeg (m : Nat) (g : Nat → List Value) (need : Int) (op : Int) (k : Int) (d : ByteArray) : Int := (bif x_rack m (fun j => g j) need op k (1 : Int) d (0 : Int) (0 : Int) { data := { toList := [] } } (0 : Int) != (0 : Int) then (0 : Int) else (op))
def x1_rbeg (m : Nat) (g : Nat → List Value) (need : Int) (op : Int) (k : Int) (d : ByteArray) : Int := (bif x_rack m (fun j => g j) need op k (1 : Int) d (0 : Int) (0 : Int) { data := { toList := [] } } (0 : Int) != (0 : Int) then (0 : Int) else (k))
def x2_rbeg (m : Nat) (g : Nat → List Value) (need : Int) (op : Int) (k : Int) (d : ByteArray) : Int := (bif x_rack m (fun j => g j) need op k (1 : Int) d (0 : Int) (0 : Int) { data := { toList := [] } } (0 : Int) != (0 : Int) then (0 : Int) else (1 : Int))
def x3_rbeg (m : Nat) (g : Nat → List Value) (need : Int) (op : Int) (k : Int) (d : ByteArray) : ByteArray := (bif x_rack m (fun j => g j) need op k (1 : Int) d (0 : Int) (0 : Int) { data := { toList := [] } } (0 : Int) != (0 : Int) then ({ data := { toList := [] } }) else (d))
def x4_rbeg (m : Nat) (g : Nat → List Value) (need : Int) (op : Int) (k : Int) (d : ByteArray) : Int := (bif x_rack m (fun j => g j) need op k (1 : Int) d (0 : Int) (0 : Int) { data := { toList := [] } } (0 : Int) != (0 : Int) then (0 : Int) else (0 : Int))
def x5_rbeg (m : Nat) (g : Nat → List Value) (need : Int) (op : Int) (k : Int) (d : ByteArray) : Int := (bif x_rack m (fun j => g j) need op k (1 : Int) d (0 : Int) (0 : Int) { data := { toList := [] } } (0 : Int) != (0 : Int) then (0 : Int) else (0 : Int))
def x6_rbeg (m : Nat) (g : Nat → List Value) (need : Int) (op : Int) (k : Int) (d : ByteArray) : ByteArray := (bif x_rack m (fun j => g j) need op k (1 : Int) d (0 : Int) (0 : Int) { data := { toList := [] } } (0 : Int) != (0 : Int) then ({ data := { toList := [] } }) else ({ data := { toList := [] } }))
def x7_rbeg (m : Nat) (g : Nat → List Value) (need : Int) (op : Int) (k : Int) (d : ByteArray) : Int := (bif x_rack m (fun j => g j) need op k (1 : Int) d (0 : Int) (0 : Int) { data := { toList := [] } } (0 : Int) != (0 : Int) then (0 : Int) else (0 : Int))
def n8_rbeg (m : Nat) (g : Nat → List Value) (need : Int) (op : Int) (k : Int) (d : ByteArray) : Nat := (bif x_rack m (fun j => g j) need op k (1 : Int) d (0 : Int) (0 : Int) { data := { toList := [] } } (0 : Int) != (0 : Int) then (0) else (m))
def g8_rbeg (m : Nat) (g : Nat → List Value) (need : Int) (op : Int) (k : Int) (d : ByteArray) : Nat → List Value := (bif x_rack m (fun j => g j) need op k (1 : Int) d (0 : Int) (0 : Int) { data := { toList := [] } } (0 : Int) != (0 : Int) then (fun _ => []) else (toC (1 : Int) op (0 : Int) (0 : Int) { data := #[] }))
def x9_rbeg (m : Nat) (g : Nat → List Value) (need : Int) (op : Int) (k : Int) (d : ByteArray) : Int := (bif x_rack m (fun j => g j) need op k (1 : Int) d (0 : Int) (0 : Int) { data := { toList := [] } } (0 : Int) != (0 : Int) then (x_rack m (fun j => g j) need op k (1 : Int) d (0 : Int) (0 : Int) { data := { toList := [] } } (0 : Int)) else (0 : Int))
theorem run_rbeg (m : Nat) (g : Nat → List Value) (need : Int) (op : Int) (k : Int) (d : ByteArray) : evR K32 noL Try.f15 [.agg ⟨[.slice (some ⟨0, 0, some 0⟩) m m, .int .i64 need]⟩, .int .i64 op, .int .i64 k, .string d] [.recs wtK m g] [.agg [.val, .val, .val, .val, .val, .val, .val, .val], .one .val, .one .val] [.val (.int .i64 (x0_rbeg m g need op k d)), .val (.int .i64 (x1_rbeg m g need op k d)), .val (.int .i64 (x2_rbeg m g need op k d)), .val (.string (x3_rbeg m g need op k d)), .val (.int .i64 (x4_rbeg m g need op k d)), .val (.int .i64 (x5_rbeg m g need op k d)), .val (.string (x6_rbeg m g need op k d)), .val (.int .u64 (x7_rbeg m g need op k d)), .rows 40 msK (n8_rbeg m g need op k d) (g8_rbeg m g need op k d), .val (.int .i64 (x9_rbeg m g need op k d))] = Out.ask (m ≤ m ∧ m ≤ (140737488355328 : Nat)) (tst (x_rack m (fun j => g j) need op k (1 : Int) d (0 : Int) (0 : Int) { data := { toList := [] } } (0 : Int) != (0 : Int)) (Out.ask ((Value.int IntKind.i64 (0 : Int) : Value) = .int .i64 (x0_rbeg m g need op k d)) (Out.ask ((Value.int IntKind.i64 (0 : Int) : Value) = .int .i64 (x1_rbeg m g need op k d)) (Out.ask ((Value.int IntKind.i64 (0 : Int) : Value) = .int .i64 (x2_rbeg m g need op k d)) (Out.ask ((Value.string { data := { toList := [] } } : Value) = .string (x3_rbeg m g need op k d)) (Out.ask ((Value.int IntKind.i64 (0 : Int) : Value) = .int .i64 (x4_rbeg m g need op k d)) (Out.ask ((Value.int IntKind.i64 (0 : Int) : Value) = .int .i64 (x5_rbeg m g need op k d)) (Out.ask ((Value.string { data := { toList := [] } } : Value) = .string (x6_rbeg m g need op k d)) (Out.ask ((Value.int IntKind.u64 (0 : Int) : Value) = .int .u64 (x7_rbeg m g need op k d)) (Out.ask ((n8_rbeg m g need op k d : Nat) = 0) (Out.ask ((Value.int IntKind.i64 (x_rack m (fun j => g j) need op k (1 : Int) d (0 : Int) (0 : Int) { data := { toList := [] } } (0 : Int)) : Value) = .int .i64 (x9_rbeg m g need op k d)) (Out.done .ret ⟨[], []⟩))))))))))) (Out.ask (aEN [CA.val (Value.int IntKind.i64 (↑m : Int)), CA.val (Value.agg { toList := [Value.int IntKind.i64 (1 : Int), Value.int IntKind.i64 op, Value.int IntKind.i64 (0 : Int), Value.int IntKind.i64 (0 : Int), Value.int IntKind.i64 (0 : Int), Value.string { data := { toList := [] } }] })]) (Out.ask ((Value.int IntKind.i64 op : Value) = .int .i64 (x0_rbeg m g need op k d)) (Out.ask ((Value.int IntKind.i64 k : Value) = .int .i64 (x1_rbeg m g need op k d)) (Out.ask ((Value.int IntKind.i64 (1 : Int) : Value) = .int .i64 (x2_rbeg m g need op k d)) (Out.ask ((Value.string d : Value) = .string (x3_rbeg m g need op k d)) (Out.ask ((Value.int IntKind.i64 (0 : Int) : Value) = .int .i64 (x4_rbeg m g need op k d)) (Out.ask ((Value.int IntKind.i64 (0 : Int) : Value) = .int .i64 (x5_rbeg m g need op k d)) (Out.ask ((Value.string { data := { toList := [] } } : Value) = .string (x6_rbeg m g need op k d)) (Out.ask ((Value.int IntKind.u64 (0 : Int) : Value) = .int .u64 (x7_rbeg m g need op k d)) (Out.ask ((m) = n8_rbeg m g need op k d ∧ (m) ≤ (m) ∧ ∀ j, j < n8_rbeg m g need op k d → norm msK ((toC (1 : Int) op (0 : Int) (0 : Int) { data := #[] }) j) = norm msK (g8_rbeg m g need op k d j)) (Out.ask ((Value.int IntKind.i64 (0 : Int) : Value) = .int .i64 (x9_rbeg m g need op k d)) (Out.done .ret ⟨[], []⟩))))))))))))) := by kernel_rfl
def g_rbeg : List CA → Option (List RC)
  | [.rows _ m g, .val (.int .i64 need), .val (.int .i64 op), .val (.int .i64 k), .val (.string d)] => some [.val (.int .i64 (x0_rbeg m g need op k d)), .val (.int .i64 (x1_rbeg m g need op k d)), .val (.int .i64 (x2_rbeg m g need op k d)), .val (.string (x3_rbeg m g need op k d)), .val (.int .i64 (x4_rbeg m g need op k d)), .val (.int .i64 (x5_rbeg m g need op k d)), .val (.string (x6_rbeg m g need op k d)), .val (.int .u64 (x7_rbeg m g need op k d)), .rows 40 msK (n8_rbeg m g need op k d) (g8_rbeg m g need op k d), .val (.int .i64 (x9_rbeg m g need op k d))]
  | _ => none
theorem f_rbeg : FOk K32.P 15 (listG [.agg [.rows wtK, .val], .one .val, .one .val, .one .val] [.agg [.val, .val, .val, .val, .val, .val, .val, .val], .one .val, .one .val] g_rbeg) := list_g K32_ok Try.func15 rfl rfl (no_loops rfl) fun cas rs _hb _hk h => by
  unfold g_rbeg at h
  split at h
  · rename_i sh0 m g need op k d
    have e0 := kind_rows (i := 0) _hk rfl rfl
    have hbm := bnd_rows (i := 0) _hb rfl
    subst e0
    cases h
    show (evR K32 noL _ [.agg ⟨[.slice (some ⟨0, 0, some 0⟩) m m, .int .i64 need]⟩, .int .i64 op, .int .i64 k, .string d] [.recs wtK m g] [.agg [.val, .val, .val, .val, .val, .val, .val, .val], .one .val, .one .val] _).sat _
    rw [run_rbeg]
    exact sat_ask (by first | omega | exact ⟨Nat.le_refl _, by assumption⟩ | exact ⟨rfl, rfl⟩ | exact rack_n h0 | simp_all) (sat_tst (fun h0 => sat_ask (by simp only [x0_rbeg, h0, cond_true]) (sat_ask (by simp only [x1_rbeg, h0, cond_true]) (sat_ask (by simp only [x2_rbeg, h0, cond_true]) (sat_ask (by simp only [x3_rbeg, h0, cond_true]) (sat_ask (by simp only [x4_rbeg, h0, cond_true]) (sat_ask (by simp only [x5_rbeg, h0, cond_true]) (sat_ask (by simp only [x6_rbeg, h0, cond_true]) (sat_ask (by simp only [x7_rbeg, h0, cond_true]) (sat_ask (by simp only [n8_rbeg, h0, cond_true]) (sat_ask (by simp only [x9_rbeg, h0, cond_true]) (sat_end))))))))))) (fun h0 => sat_ask (by first | omega | exact ⟨Nat.le_refl _, by assumption⟩ | exact ⟨rfl, rfl⟩ | exact rack_n h0 | simp_all) (sat_ask (by simp only [x0_rbeg, h0, cond_false]) (sat_ask (by simp only [x1_rbeg, h0, cond_false]) (sat_ask (by simp only [x2_rbeg, h0, cond_false]) (sat_ask (by simp only [x3_rbeg, h0, cond_false]) (sat_ask (by simp only [x4_rbeg, h0, cond_false]) (sat_ask (by simp only [x5_rbeg, h0, cond_false]) (sat_ask (by simp only [x6_rbeg, h0, cond_false]) (sat_ask (by simp only [x7_rbeg, h0, cond_false]) (sat_ask ⟨by simp only [n8_rbeg, h0, cond_false], Nat.le_refl _, fun j _ => by simp only [g8_rbeg, h0, cond_false]⟩ (sat_ask (by simp only [x9_rbeg, h0, cond_false]) (sat_end)))))))))))))
  · cases h
-- @end
-- @file nd.chain
noncomputable def K33 : Kn := K32.addF 15 (listG [.agg [.rows wtK, .val], .one .val, .one .val, .one .val] [.agg [.val, .val, .val, .val, .val, .val, .val, .val], .one .val, .one .val] g_rbeg)
theorem K33_ok : K33.Ok := K32_ok.addF f_rbeg
-- @end
def keepM1 : AE → List Nat
  | .normal => [0, 2, 4]
  | .exit _ => [0, 2]
  | .ret => [2, 3]
def gM1L : List Value → List AObj → (AE → List Value → List AObj → Out) → Out
  | [.slice (some ⟨0, 0, some 0⟩) l c, .pointer (some ⟨1, 0, none⟩), .int .i64 i], [.recs sh m g, .cells T [.int .i64 a, .int .i64 b, .string s]], k => (match shEq sh cpK with
    | true => .ask (l = m ∧ c = m ∧ i = 0 ∧ m ≤ 12) (tst (cks (cpsOf m g) != 0) (k .ret [.pointer (some ⟨1, 0, none⟩), .int .i64 (cks (cpsOf m g))] [.recs sh m g, .cells T [.int .i64 0, .int .i64 0, .string ⟨#[]⟩]])
      (k (.exit 0) [.slice (some ⟨0, 0, some 0⟩) m m, .pointer (some ⟨1, 0, none⟩)] [.recs sh m g, .cells T [.int .i64 a, .int .i64 b, .string s]]))
    | false => .bad)
  | _, _, _ => .bad
def lM1 : Nat → Option LCon := oneL 4 (lspec 61 keepM1 2 gM1L)
def keepM2 : AE → List Nat
  | .normal => [0, 2, 6, 7, 8]
  | .exit _ => [0, 2, 6, 7]
  | .ret => []
def keepM3 : AE → List Nat
  | .normal => [0, 2, 6]
  | .exit _ => [0, 2]
  | .ret => [2, 3]
def gM2L : List Value → List AObj → (AE → List Value → List AObj → Out) → Out
  | [.slice (some ⟨0, 0, some 0⟩) l c, .pointer (some ⟨1, 0, none⟩), .int .i64 i, .bool b, .int .i64 j], [.recs sh m g, .cells T [.int .i64 x, .int .i64 y, .string s]], k => (match shEq sh cpK with
    | true => .ask (l = m ∧ c = m ∧ j = 0 ∧ 0 ≤ i ∧ i < m ∧ m ≤ 12) (k (.exit 4) [.slice (some ⟨0, 0, some 0⟩) m m, .pointer (some ⟨1, 0, none⟩), .int .i64 i, .bool (b || abv (cpsOf m g) i.toNat m)] [.recs sh m g, .cells T [.int .i64 x, .int .i64 y, .string s]])
    | false => .bad)
  | _, _, _ => .bad
def lM2 : Nat → Option LCon := oneL 14 (lspec 61 keepM2 2 gM2L)
def gM3L : List Value → List AObj → (AE → List Value → List AObj → Out) → Out
  | [.slice (some ⟨0, 0, some 0⟩) l c, .pointer (some ⟨1, 0, none⟩), .int .i64 i], [.recs sh m g, .cells T [.int .i64 _, .int .i64 _, .string _]], k => (match shEq sh cpK with
    | true => .ask (l = m ∧ c = m ∧ i = 0 ∧ 0 < m ∧ m ≤ 12) (k .ret [.pointer (some ⟨1, 0, none⟩), .int .i64 0] [.recs sh m g, .cells T [.int .i64 (lats (cpsOf m g)).1.1, .int .i64 (lats (cpsOf m g)).1.2, .string (lats (cpsOf m g)).2]])
    | false => .bad)
  | _, _, _ => .bad
def lMe : Nat → Option LCon := addL lM1 10 (lspec 61 keepM3 2 gM3L)
noncomputable def mInn : Code := (nthL (loops (bodyOf Try.f32 1)) 0).getD .skip
end Go.Proofs.Ytbmbnbhedalcnaa
namespace Go.Proofs.Ytbmbnbhedalcnaa
open Go.RowKit
abbrev meS (m : Nat) (i : Int) : List Value := [.slice (some ⟨0, 0, some 0⟩) m m, .pointer (some ⟨1, 0, none⟩), .int .i64 i]
abbrev meH (m T : Nat) (g : Nat → List Value) (x y : Int) (s : ByteArray) : List AObj := [.recs cpK m g, .cells T [.int .i64 x, .int .i64 y, .string s]]
theorem run_m1 (m k T : Nat) (g : Nat → List Value) (x y : Int) (s : ByteArray) : ev K33 noL (bodyOf Try.f32 0) ⟨mkSlots 61 [0, 2, 4] (meS m k), meH m T g x y s⟩ (pkG 61 keepM1 2) =
    tst (decide ((k : Int) < (m : Int))) (.ask ((0 : Int) ≤ (k : Int) ∧ (k : Int) < (m : Int)) (.ask (k < m) (tst (x_rcc (intV (hdV (g k))) (intV (hdV (tlV (g k)))) (strV (hdV (tlV (tlV (g k))))) != 0)
      (.done .ret ⟨someL [.pointer (some ⟨1, 0, none⟩), .int .i64 (x_rcc (intV (hdV (g k))) (intV (hdV (tlV (g k)))) (strV (hdV (tlV (tlV (g k))))))], meH m T g 0 0 ⟨#[]⟩⟩)
      (.done .normal ⟨someL (meS m (IntKind.wrap .i64 ((k : Int) + 1))), meH m T g x y s⟩))))
      (.done (.exit 0) ⟨someL [.slice (some ⟨0, 0, some 0⟩) m m, .pointer (some ⟨1, 0, none⟩)], meH m T g x y s⟩) := by kernel_rfl
theorem run_m2 (m k i T : Nat) (g : Nat → List Value) (x y : Int) (b : Bool) (s : ByteArray) : ev K33 noL mInn ⟨mkSlots 61 [0, 2, 6, 7, 8] (meS m i ++ [.bool b, .int .i64 k]), meH m T g x y s⟩ (pkG 61 keepM2 2) =
    tst (decide ((k : Int) < (m : Int))) (tst b (.done .normal ⟨someL (meS m i ++ [.bool true, .int .i64 (IntKind.wrap .i64 ((k : Int) + 1))]), meH m T g x y s⟩)
      (.ask ((0 : Int) ≤ (i : Int) ∧ (i : Int) < (m : Int)) (.ask (i < m) (.ask ((0 : Int) ≤ (k : Int) ∧ (k : Int) < (m : Int)) (.ask (k < m) (.done .normal ⟨someL (meS m i ++ [.bool (x_rsl (intV (hdV (g i))) (intV (hdV (tlV (g i)))) (intV (hdV (g k))) (intV (hdV (tlV (g k))))), .int .i64 (IntKind.wrap .i64 ((k : Int) + 1))]), meH m T g x y s⟩))))))
      (.done (.exit 4) ⟨someL (meS m i ++ [.bool b]), meH m T g x y s⟩) := by kernel_rfl
theorem run_m3 (m k T : Nat) (g : Nat → List Value) (x y : Int) (s : ByteArray) : ev K33 lM2 (bodyOf Try.f32 1) ⟨mkSlots 61 [0, 2, 6] (meS m k), meH m T g x y s⟩ (pkG 61 keepM3 2) =
    tst (decide ((k : Int) < (m : Int))) (.ask (m = m ∧ m = m ∧ (0 : Int) = 0 ∧ (0 : Int) ≤ (k : Int) ∧ (k : Int) < (m : Int) ∧ m ≤ 12) (tst (!abv (cpsOf m g) k m)
      (.ask ((0 : Int) ≤ (k : Int) ∧ (k : Int) < (m : Int)) (.ask (k < m) (.done .ret ⟨someL [.pointer (some ⟨1, 0, none⟩), .int .i64 0], meH m T g (intV (hdV (g k))) (intV (hdV (tlV (g k)))) (strV (hdV (tlV (tlV (g k)))))⟩)))
      (.done .normal ⟨someL (meS m (IntKind.wrap .i64 ((k : Int) + 1))), meH m T g x y s⟩)))
      (.done (.exit 2) ⟨someL [.slice (some ⟨0, 0, some 0⟩) m m, .pointer (some ⟨1, 0, none⟩)], meH m T g x y s⟩) := by kernel_rfl
theorem run_me (m : Nat) (g : Nat → List Value) : evV K33 lMe Try.f32 [.slice (some ⟨0, 0, some 0⟩) m m] [.recs cpK m g] =
    tst (decide ((m : Int) > 12)) (.done .ret ⟨[some (.tuple ⟨[.agg ⟨[.int .i64 0, .int .i64 0, .string ⟨#[]⟩]⟩, .int .i64 2]⟩)], []⟩) (.ask (m = m ∧ m = m ∧ (0 : Int) = 0 ∧ m ≤ 12) (tst (cks (cpsOf m g) != 0) (.done .ret ⟨[some (.tuple ⟨[.agg ⟨[.int .i64 0, .int .i64 0, .string ⟨#[]⟩]⟩, .int .i64 (cks (cpsOf m g))]⟩)], []⟩)
      (.ask (m = m ∧ m = m ∧ (0 : Int) = 0 ∧ 0 < m ∧ m ≤ 12) (.done .ret ⟨[some (.tuple ⟨[.agg ⟨[.int .i64 (lats (cpsOf m g)).1.1, .int .i64 (lats (cpsOf m g)).1.2, .string (lats (cpsOf m g)).2]⟩, .int .i64 0]⟩)], []⟩)))) := by kernel_rfl
theorem loop_m1 : LOk K33.P (bodyOf Try.f32 0) (lspec 61 keepM1 2 gM1L) := lspec_ok K33_ok (L := noL) (fun c' _ F h => by cases h) fun Φ vs H kk hm0 h => by
  unfold gM1L at h
  split at h
  · rename_i l c i sh m g T x y s
    split at h
    · rename_i hsh
      have := shEq_eq hsh
      subst this
      obtain ⟨⟨rfl, rfl, rfl, hb⟩, h⟩ := h
      refine ⟨{j : Nat // j ≤ c ∧ ∀ i, i < j → cck ((cpsOf c g)[i]?.getD cz) = 0}, fun n => meS c n.1, fun _ => meH c T g x y s, fun n => c - n.1, ⟨0, by omega, fun i hi => by omega⟩, rfl, rfl, ?_⟩
      rintro ⟨j, hj, hz⟩
      show (ev K33 noL _ ⟨mkSlots 61 [0, 2, 4] (meS c j), meH c T g x y s⟩ (pkG 61 keepM1 2)).sat _
      rw [run_m1]
      refine sat_tst (fun ht => ?_) (fun ht => ?_)
      · have hlt : j < c := by have := of_decide_eq_true ht; omega
        have ee : x_rcc (intV (hdV (g j))) (intV (hdV (tlV (g j)))) (strV (hdV (tlV (tlV (g j))))) = cck ((cpsOf c g)[j]?.getD cz) := by rw [rcc_eq, cps_at g hlt]; rfl
        rw [ee]
        refine sat_ask ⟨by omega, by omega⟩ (sat_ask hlt (sat_tst (fun h1 => ?_) fun h1 => ?_))
        · have h1' : cck ((cpsOf c g)[j]?.getD cz) ≠ 0 := by simpa using h1
          rw [cks_at _ j (by rw [cps_len]; exact hlt) hz h1', h1] at h
          exact ⟨_, rfl, h⟩
        · have h1' : cck ((cpsOf c g)[j]?.getD cz) = 0 := by simpa using h1
          refine ⟨⟨j + 1, by omega, fun i hi => ?_⟩, ?_, rfl, by show c - (j + 1) < c - j; omega⟩
          · by_cases e : i = j
            · subst e; exact h1'
            · exact hz i (by omega)
          · rw [wrap_at hlt (by omega)]
      · have hge : j = c := by have := of_decide_eq_false ht; omega
        subst hge
        rw [cks_all (cpsOf j g) fun k hk => hz k (by rw [cps_len] at hk; exact hk)] at h
        exact ⟨_, rfl, h⟩
    · exact h.elim
  · exact h.elim
theorem loop_m2 : LOk K33.P mInn (lspec 61 keepM2 2 gM2L) := lspec_ok K33_ok (L := noL) (fun c' _ F h => by cases h) fun Φ vs H kk hm0 h => by
  unfold gM2L at h
  split at h
  · rename_i l c i b k sh m g T x y s
    split at h
    · rename_i hsh
      have := shEq_eq hsh
      subst this
      obtain ⟨⟨rfl, rfl, rfl, hi0, hi1, hb⟩, h⟩ := h
      obtain ⟨i, rfl⟩ : ∃ n : Nat, i = n := ⟨i.toNat, by omega⟩
      have hi1 : i < c := by omega
      refine ⟨{j : Nat // j ≤ c}, fun n => meS c i ++ [.bool (b || abv (cpsOf c g) i n.1), .int .i64 n.1], fun _ => meH c T g x y s, fun n => c - n.1, ⟨0, by omega⟩, by show meS c i ++ [.bool (b || false), .int .i64 0] = _; rw [Bool.or_false]; rfl, rfl, ?_⟩
      rintro ⟨j, hj⟩
      show (ev K33 noL _ ⟨mkSlots 61 [0, 2, 6, 7, 8] (meS c i ++ [.bool (b || abv (cpsOf c g) i j), .int .i64 j]), meH c T g x y s⟩ (pkG 61 keepM2 2)).sat _
      rw [run_m2]
      refine sat_tst (fun ht => ?_) (fun ht => ?_)
      · have hlt : j < c := by have := of_decide_eq_true ht; omega
        have next : (b || abv (cpsOf c g) i (j + 1)) = (bif (b || abv (cpsOf c g) i j) then true else slt (cpOf (g i)).1 (cpOf (g j)).1) := by
          show (b || (abv (cpsOf c g) i j || slt ((cpsOf c g)[i]?.getD cz).1 ((cpsOf c g)[j]?.getD cz).1)) = _
          rw [cps_at g hi1, cps_at g hlt]
          cases b <;> cases abv (cpsOf c g) i j <;> rfl
        refine sat_tst (fun h1 => ?_) fun h1 => sat_ask ⟨by omega, by omega⟩ (sat_ask hi1 (sat_ask ⟨by omega, by omega⟩ (sat_ask hlt ?_)))
        · rw [h1] at next
          refine ⟨⟨j + 1, by omega⟩, ?_, rfl, by show c - (j + 1) < c - j; omega⟩
          show someL (meS c i ++ [.bool true, _]) = someL (meS c i ++ [.bool (b || abv (cpsOf c g) i (j + 1)), _])
          rw [next, wrap_at hlt (by omega)]
          rfl
        · rw [h1] at next
          refine ⟨⟨j + 1, by omega⟩, ?_, rfl, by show c - (j + 1) < c - j; omega⟩
          show someL (meS c i ++ [.bool _, _]) = someL (meS c i ++ [.bool (b || abv (cpsOf c g) i (j + 1)), _])
          rw [next, wrap_at hlt (by omega), rsl_eq]
          rfl
      · have hge : j = c := by have := of_decide_eq_false ht; omega
        subst hge
        exact ⟨_, rfl, h⟩
    · exact h.elim
  · exact h.elim
theorem lM2_ok : ∀ F, lM2 (key mInn) = some F → LOk K33.P mInn F := fun F h => by
  have hk : lM2 (key mInn) = some (lspec 61 keepM2 2 gM2L) := by kernel_rfl
  rw [hk] at h
  cases h
  exact loop_m2
theorem mInn_in : loops (bodyOf Try.f32 1) = [mInn] := by kernel_rfl
theorem loop_m3 : LOk K33.P (bodyOf Try.f32 1) (lspec 61 keepM3 2 gM3L) := lspec_ok K33_ok (L := lM2) (fun c' hc F h => by
    rw [mInn_in] at hc
    rw [List.mem_singleton.1 hc] at h ⊢
    exact lM2_ok F h) fun Φ vs H kk hm0 h => by
  unfold gM3L at h
  split at h
  · rename_i l c i sh m g T x y s
    split at h
    · rename_i hsh
      have := shEq_eq hsh
      subst this
      obtain ⟨⟨rfl, rfl, rfl, h0, hb⟩, h⟩ := h
      refine ⟨{j : Nat // j ≤ c ∧ ∀ i, i < j → abv (cpsOf c g) i c = true}, fun n => meS c n.1, fun _ => meH c T g x y s, fun n => c - n.1, ⟨0, by omega, fun i hi => by omega⟩, rfl, rfl, ?_⟩
      rintro ⟨j, hj, hz⟩
      show (ev K33 lM2 _ ⟨mkSlots 61 [0, 2, 6] (meS c j), meH c T g x y s⟩ (pkG 61 keepM3 2)).sat _
      rw [run_m3]
      refine sat_tst (fun ht => ?_) (fun ht => ?_)
      · have hlt : j < c := by have := of_decide_eq_true ht; omega
        refine sat_ask ⟨rfl, rfl, rfl, by omega, by omega, hb⟩ (sat_tst (fun h1 => sat_ask ⟨by omega, by omega⟩ (sat_ask hlt ?_)) fun h1 => ?_)
        · have h1 : (!abv (cpsOf c g) j c) = true := h1
          have h1 : abv (cpsOf c g) j c = false := by simpa using h1
          have e := lats_first (L := cpsOf c g) (i := j) (by rw [cps_len]; exact hlt) (by rw [cps_len]; exact hz) (by rw [cps_len]; exact h1)
          rw [e, cps_at g hlt] at h
          exact ⟨_, rfl, h⟩
        · have h1 : (!abv (cpsOf c g) j c) = false := h1
          have h1 : abv (cpsOf c g) j c = true := by simpa using h1
          refine ⟨⟨j + 1, by omega, fun i hi => ?_⟩, ?_, rfl, by show c - (j + 1) < c - j; omega⟩
          · by_cases e : i = j
            · subst e; exact h1
            · exact hz i (by omega)
          · rw [wrap_at hlt (by omega)]
      · have hge : j = c := by have := of_decide_eq_false ht; omega
        subst hge
        exact (lats_some (L := cpsOf j g) (by rw [cps_len]; exact h0) (by rw [cps_len]; exact hz)).elim
    · exact h.elim
  · exact h.elim
end Go.Proofs.Ytbmbnbhedalcnaa
namespace Go.Proofs.Ytbmbnbhedalcnaa
open Go.RowKit
theorem m1_ok : ∀ F, lMe (key (bodyOf Try.f32 0)) = some F → LOk K33.P (bodyOf Try.f32 0) F := fun F h => by
  have hk : lMe (key (bodyOf Try.f32 0)) = some (lspec 61 keepM1 2 gM1L) := by kernel_rfl
  rw [hk] at h
  cases h
  exact loop_m1
theorem m3_ok : ∀ F, lMe (key (bodyOf Try.f32 1)) = some F → LOk K33.P (bodyOf Try.f32 1) F := fun F h => by
  have hk : lMe (key (bodyOf Try.f32 1)) = some (lspec 61 keepM3 2 gM3L) := by kernel_rfl
  rw [hk] at h
  cases h
  exact loop_m3
def aMe : List CA → Prop
  | [.rows _ m _] => 0 < m
  | _ => False
def gMe : List CA → Option Value
  | [.rows _ m g] => some (.tuple ⟨[.agg ⟨[.int .i64 (mgV (cpsOf m g)).1.1, .int .i64 (mgV (cpsOf m g)).1.2, .string (mgV (cpsOf m g)).2]⟩, .int .i64 (clE (cpsOf m g))]⟩)
  | _ => none
theorem q_me : QOk K33.P 32 (listA [.one (.rows cpK)] aMe gMe) := list_qA K33_ok Try.func32 rfl rfl (two_loops (by kernel_rfl) m1_ok m3_ok) fun cas r hb hk ha h => by
  unfold gMe at h
  split at h
  · rename_i sh m g
    obtain ⟨rfl, -⟩ := hk
    have h0 : 0 < m := ha
    cases h
    refine ⟨rfl, ?_⟩
    show (evV K33 lMe _ [.slice (some ⟨0, 0, some 0⟩) m m] [.recs cpK m g]).sat _
    rw [run_me]
    have hl := cps_len m g
    refine sat_tst (fun h1 => leaf_v ?_) (fun h1 => sat_ask ⟨rfl, rfl, rfl, by have := of_decide_eq_false h1; omega⟩ (sat_tst (fun h2 => leaf_v ?_) fun h2 => sat_ask ⟨rfl, rfl, rfl, h0, by have := of_decide_eq_false h1; omega⟩ (leaf_v ?_)))
    · have h1 := of_decide_eq_true h1
      have e : clE (cpsOf m g) = 2 := by unfold clE; rw [hl, if_pos (by omega)]
      unfold mgV
      rw [e, if_neg (by decide)]
      rfl
    · have h1 := of_decide_eq_false h1
      have e : clE (cpsOf m g) = cks (cpsOf m g) := by unfold clE; rw [hl, if_neg (by omega)]
      have h2 : cks (cpsOf m g) ≠ 0 := by simpa using h2
      unfold mgV
      rw [e, if_neg h2]
      rfl
    · have h1 := of_decide_eq_false h1
      have h2 : cks (cpsOf m g) = 0 := by simpa using h2
      have e : clE (cpsOf m g) = 0 := by unfold clE; rw [hl, if_neg (by omega)]; exact h2
      unfold mgV
      rw [e, if_pos rfl]
  · cases h
noncomputable def K34 : Kn := K33.addQ 32 (listA [.one (.rows cpK)] aMe gMe)
theorem K34_ok : K34.Ok := K33_ok.addQ q_me
def keepS1 : AE → List Nat
  | .normal => [0, 2, 4, 5]
  | .exit _ => [0, 2, 4]
  | .ret => []
abbrev sxS (i : Int) : List Value := [.slice (some ⟨0, 0, some 0⟩) 1 1, .pointer (some ⟨1, 0, none⟩), .pointer (some ⟨2, 0, none⟩), .int .i64 i]
abbrev sxH (T1 T2 : Nat) (g : Nat → List Value) (a b x y : Int) : List AObj := [.recs stK 1 g, .cells T1 [.int .i64 a, .int .i64 b], .cells T2 [.int .i64 x, .int .i64 y]]
end Go.Proofs.Ytbmbnbhedalcnaa
namespace Go.Proofs.Ytbmbnbhedalcnaa
open Go.RowKit
def keepS2 : AE → List Nat
  | .normal => [0, 2, 4, 6]
  | .exit _ => [2, 4]
  | .ret => [2, 3]
def gS1L : List Value → List AObj → (AE → List Value → List AObj → Out) → Out
  | [.slice (some ⟨0, 0, some 0⟩) l c, .pointer (some ⟨1, 0, none⟩), .pointer (some ⟨2, 0, none⟩), .int .i64 i], [.recs sh m g, .cells T1 [.int .i64 a, .int .i64 b], .cells T2 [.int .i64 x, .int .i64 y]], k => (match shEq sh stK with
    | true => .ask (l = 1 ∧ c = 1 ∧ m = 1 ∧ i = 0) (tst (slt (x, y) (stp (g 0))) (k (.exit 0) [.slice (some ⟨0, 0, some 0⟩) l c, .pointer (some ⟨1, 0, none⟩), .pointer (some ⟨2, 0, none⟩)] [.recs sh m g, .cells T1 [.int .i64 a, .int .i64 b], .cells T2 [.int .i64 (intV (hdV (g 0))), .int .i64 (intV (hdV (tlV (g 0))))]])
      (k (.exit 0) [.slice (some ⟨0, 0, some 0⟩) l c, .pointer (some ⟨1, 0, none⟩), .pointer (some ⟨2, 0, none⟩)] [.recs sh m g, .cells T1 [.int .i64 a, .int .i64 b], .cells T2 [.int .i64 x, .int .i64 y]]))
    | false => .bad)
  | _, _, _ => .bad
def gS2L : List Value → List AObj → (AE → List Value → List AObj → Out) → Out
  | [.slice (some ⟨0, 0, some 0⟩) l c, .pointer (some ⟨1, 0, none⟩), .pointer (some ⟨2, 0, none⟩), .int .i64 i], [.recs sh m g, .cells T1 [.int .i64 a, .int .i64 b], .cells T2 [.int .i64 x, .int .i64 y]], k => (match shEq sh stK with
    | true => .ask (l = 1 ∧ c = 1 ∧ m = 1 ∧ i = 0) (tst (sck (stp (g 0)) != 0) (k .ret [.pointer (some ⟨1, 0, none⟩), .int .i64 3] [.recs sh m g, .cells T1 [.int .i64 0, .int .i64 0], .cells T2 [.int .i64 x, .int .i64 y]])
      (k (.exit 2) [.pointer (some ⟨1, 0, none⟩), .pointer (some ⟨2, 0, none⟩)] [.recs sh m g, .cells T1 [.int .i64 a, .int .i64 b], .cells T2 [.int .i64 x, .int .i64 y]]))
    | false => .bad)
  | _, _, _ => .bad
def lSx : Nat → Option LCon := addL (oneL 5 (lspec 43 keepS1 3 gS1L)) 10 (lspec 43 keepS2 3 gS2L)
theorem run_s1a (T1 T2 : Nat) (g : Nat → List Value) (a b x y : Int) : ev K34 noL (bodyOf Try.f55 0) ⟨mkSlots 43 [0, 2, 4, 5] (sxS 0), sxH T1 T2 g a b x y⟩ (pkG 43 keepS1 3) =
    .ask ((0 : Int) ≤ 0 ∧ (0 : Int) < 1) (.ask (0 < 1) (tst (x_rsl x y (intV (hdV (g 0))) (intV (hdV (tlV (g 0))))) (.ask ((0 : Int) ≤ 0 ∧ (0 : Int) < 1) (.ask (0 < 1) (.done .normal ⟨someL (sxS (-1)), sxH T1 T2 g a b (intV (hdV (g 0))) (intV (hdV (tlV (g 0))))⟩))) (.done .normal ⟨someL (sxS (-1)), sxH T1 T2 g a b x y⟩))) := by kernel_rfl
theorem run_s1b (T1 T2 : Nat) (g : Nat → List Value) (a b x y : Int) : ev K34 noL (bodyOf Try.f55 0) ⟨mkSlots 43 [0, 2, 4, 5] (sxS (-1)), sxH T1 T2 g a b x y⟩ (pkG 43 keepS1 3) =
    .done (.exit 0) ⟨someL [.slice (some ⟨0, 0, some 0⟩) 1 1, .pointer (some ⟨1, 0, none⟩), .pointer (some ⟨2, 0, none⟩)], sxH T1 T2 g a b x y⟩ := by kernel_rfl
theorem run_s2a (T1 T2 : Nat) (g : Nat → List Value) (a b x y : Int) : ev K34 noL (bodyOf Try.f55 1) ⟨mkSlots 43 [0, 2, 4, 6] (sxS 0), sxH T1 T2 g a b x y⟩ (pkG 43 keepS2 3) =
    .ask ((0 : Int) ≤ 0 ∧ (0 : Int) < 1) (.ask (0 < 1) (tst (x_rsc (intV (hdV (g 0))) (intV (hdV (tlV (g 0)))) != 0) (.done .ret ⟨someL [.pointer (some ⟨1, 0, none⟩), .int .i64 3], sxH T1 T2 g 0 0 x y⟩) (.done .normal ⟨someL (sxS 1), sxH T1 T2 g a b x y⟩))) := by kernel_rfl
theorem run_s2b (T1 T2 : Nat) (g : Nat → List Value) (a b x y : Int) : ev K34 noL (bodyOf Try.f55 1) ⟨mkSlots 43 [0, 2, 4, 6] (sxS 1), sxH T1 T2 g a b x y⟩ (pkG 43 keepS2 3) =
    .done (.exit 2) ⟨someL [.pointer (some ⟨1, 0, none⟩), .pointer (some ⟨2, 0, none⟩)], sxH T1 T2 g a b x y⟩ := by kernel_rfl
theorem loop_s1 : LOk K34.P (bodyOf Try.f55 0) (lspec 43 keepS1 3 gS1L) := lspec_ok K34_ok (L := noL) (fun c' _ F h => by cases h) fun Φ vs H kk hm0 h => by
  unfold gS1L at h
  split at h
  · rename_i l c i sh m g T1 a b T2 x y
    split at h
    · rename_i hsh
      have := shEq_eq hsh
      subst this
      obtain ⟨⟨rfl, rfl, rfl, rfl⟩, h⟩ := h
      refine ⟨Bool, fun d => sxS (bif d then -1 else 0), fun d => bif d then (bif slt (x, y) (stp (g 0)) then sxH T1 T2 g a b (intV (hdV (g 0))) (intV (hdV (tlV (g 0)))) else sxH T1 T2 g a b x y) else sxH T1 T2 g a b x y, fun d => bif d then 0 else 1, false, rfl, rfl, ?_⟩
      intro d
      cases d with
      | false =>
        show (ev K34 noL _ ⟨mkSlots 43 [0, 2, 4, 5] (sxS 0), sxH T1 T2 g a b x y⟩ (pkG 43 keepS1 3)).sat _
        rw [run_s1a, rsl_eq]
        refine sat_ask (by decide) (sat_ask (by decide) (sat_tst (fun h1 => sat_ask (by decide) (sat_ask (by decide) ?_)) fun h1 => ?_))
        · refine ⟨true, rfl, ?_, by decide⟩
          show _ = (bif slt (x, y) (stp (g 0)) then sxH T1 T2 g a b (intV (hdV (g 0))) (intV (hdV (tlV (g 0)))) else sxH T1 T2 g a b x y)
          rw [show slt (x, y) (stp (g 0)) = true from h1]
          rfl
        · refine ⟨true, rfl, ?_, by decide⟩
          show _ = (bif slt (x, y) (stp (g 0)) then sxH T1 T2 g a b (intV (hdV (g 0))) (intV (hdV (tlV (g 0)))) else sxH T1 T2 g a b x y)
          rw [show slt (x, y) (stp (g 0)) = false from h1]
          rfl
      | true =>
        cases hs : slt (x, y) (stp (g 0)) with
        | true =>
          rw [hs] at h
          show (ev K34 noL _ ⟨mkSlots 43 [0, 2, 4, 5] (sxS (-1)), sxH T1 T2 g a b (intV (hdV (g 0))) (intV (hdV (tlV (g 0))))⟩ (pkG 43 keepS1 3)).sat _
          rw [run_s1b]
          exact ⟨_, rfl, h⟩
        | false =>
          rw [hs] at h
          show (ev K34 noL _ ⟨mkSlots 43 [0, 2, 4, 5] (sxS (-1)), sxH T1 T2 g a b x y⟩ (pkG 43 keepS1 3)).sat _
          rw [run_s1b]
          exact ⟨_, rfl, h⟩
    · exact h.elim
  · exact h.elim
theorem loop_s2 : LOk K34.P (bodyOf Try.f55 1) (lspec 43 keepS2 3 gS2L) := lspec_ok K34_ok (L := noL) (fun c' _ F h => by cases h) fun Φ vs H kk hm0 h => by
  unfold gS2L at h
  split at h
  · rename_i l c i sh m g T1 a b T2 x y
    split at h
    · rename_i hsh
      have := shEq_eq hsh
      subst this
      obtain ⟨⟨rfl, rfl, rfl, rfl⟩, h⟩ := h
      refine ⟨{d : Bool // d = true → sck (stp (g 0)) = 0}, fun d => sxS (bif d.1 then 1 else 0), fun _ => sxH T1 T2 g a b x y, fun d => bif d.1 then 0 else 1, ⟨false, fun h => by cases h⟩, rfl, rfl, ?_⟩
      rintro ⟨d, hd⟩
      cases d with
      | false =>
        show (ev K34 noL _ ⟨mkSlots 43 [0, 2, 4, 6] (sxS 0), sxH T1 T2 g a b x y⟩ (pkG 43 keepS2 3)).sat _
        rw [run_s2a, rsc_eq]
        refine sat_ask (by decide) (sat_ask (by decide) (sat_tst (fun h1 => ?_) fun h1 => ?_))
        · rw [show (sck (stp (g 0)) != 0) = true from h1] at h
          exact ⟨_, rfl, h⟩
        · exact ⟨⟨true, fun _ => eq_of_bne h1⟩, rfl, rfl, by show (bif true then 0 else 1) < (bif false then 0 else 1); decide⟩
      | true =>
        show (ev K34 noL _ ⟨mkSlots 43 [0, 2, 4, 6] (sxS 1), sxH T1 T2 g a b x y⟩ (pkG 43 keepS2 3)).sat _
        rw [run_s2b]
        rw [hd rfl] at h
        exact ⟨_, rfl, h⟩
    · exact h.elim
  · exact h.elim
theorem s1_ok : ∀ F, lSx (key (bodyOf Try.f55 0)) = some F → LOk K34.P (bodyOf Try.f55 0) F := fun F h => by
  have hk : lSx (key (bodyOf Try.f55 0)) = some (lspec 43 keepS1 3 gS1L) := by kernel_rfl
  rw [hk] at h
  cases h
  exact loop_s1
theorem s2_ok : ∀ F, lSx (key (bodyOf Try.f55 1)) = some F → LOk K34.P (bodyOf Try.f55 1) F := fun F h => by
  have hk : lSx (key (bodyOf Try.f55 1)) = some (lspec 43 keepS2 3 gS2L) := by kernel_rfl
  rw [hk] at h
  cases h
  exact loop_s2
def sxV (p : St) : St := bif sck p != 0 then (0, 0) else bif slt (0, 0) p then p else (0, 0)
def aSx : List CA → Prop
  | [.rows _ m _] => m = 1
  | _ => False
def gSx : List CA → Option Value
  | [.rows _ _ g] => some (.tuple ⟨[.agg ⟨[.int .i64 (sxV (stp (g 0))).1, .int .i64 (sxV (stp (g 0))).2]⟩, .int .i64 (sck (stp (g 0)))]⟩)
  | _ => none
theorem run_sx (g : Nat → List Value) : evV K34 lSx Try.f55 [.slice (some ⟨0, 0, some 0⟩) 1 1] [.recs stK 1 g] =
    .ask (1 = 1 ∧ 1 = 1 ∧ 1 = 1 ∧ (0 : Int) = 0) (tst (slt (0, 0) (stp (g 0)))
      (.ask (1 = 1 ∧ 1 = 1 ∧ 1 = 1 ∧ (0 : Int) = 0) (tst (sck (stp (g 0)) != 0) (.done .ret ⟨[some (.tuple ⟨[.agg ⟨[.int .i64 0, .int .i64 0]⟩, .int .i64 3]⟩)], []⟩) (.done .ret ⟨[some (.tuple ⟨[.agg ⟨[.int .i64 (intV (hdV (g 0))), .int .i64 (intV (hdV (tlV (g 0))))]⟩, .int .i64 0]⟩)], []⟩)))
      (.ask (1 = 1 ∧ 1 = 1 ∧ 1 = 1 ∧ (0 : Int) = 0) (tst (sck (stp (g 0)) != 0) (.done .ret ⟨[some (.tuple ⟨[.agg ⟨[.int .i64 0, .int .i64 0]⟩, .int .i64 3]⟩)], []⟩) (.done .ret ⟨[some (.tuple ⟨[.agg ⟨[.int .i64 0, .int .i64 0]⟩, .int .i64 0]⟩)], []⟩)))) := by kernel_rfl
theorem q_sx : QOk K34.P 55 (listA [.one (.rows stK)] aSx gSx) := list_qA K34_ok Try.func55 rfl rfl (two_loops (by kernel_rfl) s1_ok s2_ok) fun cas r hb hk ha h => by
  unfold gSx at h
  split at h
  · rename_i sh m g
    obtain ⟨rfl, -⟩ := hk
    obtain rfl : m = 1 := ha
    cases h
    refine ⟨rfl, ?_⟩
    show (evV K34 lSx _ [.slice (some ⟨0, 0, some 0⟩) 1 1] [.recs stK 1 g]).sat _
    rw [run_sx]
    unfold sxV
    have e3 : (sck (stp (g 0)) != 0) = true → sck (stp (g 0)) = 3 := fun h => by
      rcases sck_or (stp (g 0)) with e | e
      · rw [e] at h; cases h
      · exact e
    have ez : (sck (stp (g 0)) != 0) = false → sck (stp (g 0)) = 0 := fun h => by simpa using h
    refine sat_ask ⟨rfl, rfl, rfl, rfl⟩ (sat_tst (fun h1 => sat_ask ⟨rfl, rfl, rfl, rfl⟩ (sat_tst (fun h2 => leaf_v ?_) fun h2 => leaf_v ?_)) fun h1 => sat_ask ⟨rfl, rfl, rfl, rfl⟩ (sat_tst (fun h2 => leaf_v ?_) fun h2 => leaf_v ?_))
    · rw [h2, e3 h2]; rfl
    · rw [h2, ez h2, h1]; rfl
    · rw [h2, e3 h2]; rfl
    · rw [h2, ez h2, h1]; rfl
  · cases h
noncomputable def K35 : Kn := K34.addQ 55 (listA [.one (.rows stK)] aSx gSx)
theorem K35_ok : K35.Ok := K34_ok.addQ q_sx
end Go.Proofs.Ytbmbnbhedalcnaa
namespace Go.Proofs.Ytbmbnbhedalcnaa
open Go.RowKit
-- @file nh.out
theorem run_rnx (m : Nat) (g : Nat → List Value) (who : Int) : evV K35 noL Try.f34 [.slice (some ⟨0, 0, some 0⟩) m m, .int .i64 who] [.recs stK m g] = Out.ask (m ≤ m ∧ m ≤ (140737488355328 : Nat)) (Out.ask (aSx [CA.rows stK m fun j => g j]) (tst (sck (intV (hdV (g (0 : Nat))), intV (hdV (tlV (g (0 : Nat))))) != (0 : Int)) (Out.done AE.ret { slots := [some (Value.tuple { toList := [Value.agg { toList := [Value.int IntKind.i64 (0 : Int), Value.int IntKind.i64 (0 : Int)] }, Value.int IntKind.i64 (sck (intV (hdV (g (0 : Nat))), intV (hdV (tlV (g (0 : Nat))))))] })], heap := [] }) (tst (decide (who < (0 : Int))) (Out.done AE.ret { slots := [some (Value.tuple { toList := [Value.agg { toList := [Value.int IntKind.i64 (0 : Int), Value.int IntKind.i64 (0 : Int)] }, Value.int IntKind.i64 (3 : Int)] })], heap := [] }) (tst (decide (who > (31 : Int))) (Out.done AE.ret { slots := [some (Value.tuple { toList := [Value.agg { toList := [Value.int IntKind.i64 (0 : Int), Value.int IntKind.i64 (0 : Int)] }, Value.int IntKind.i64 (3 : Int)] })], heap := [] }) (tst (decide (Prod.fst (sxV (stp ((fun j => g (j + (0 : Nat))) (0 : Nat)))) ≥ (1000000 : Int))) (Out.done AE.ret { slots := [some (Value.tuple { toList := [Value.agg { toList := [Value.int IntKind.i64 (0 : Int), Value.int IntKind.i64 (0 : Int)] }, Value.int IntKind.i64 (3 : Int)] })], heap := [] }) (Out.done AE.ret { slots := [some (Value.tuple { toList := [Value.agg { toList := [Value.int IntKind.i64 (IntKind.wrap IntKind.i64 ((sxV (intV (hdV (g (0 : Nat))), intV (hdV (tlV (g (0 : Nat)))))).1 + (1 : Int))), Value.int IntKind.i64 who] }, Value.int IntKind.i64 (0 : Int)] })], heap := [] })))))) := by kernel_rfl
def x0_rnx (g : Nat → List Value) (who : Int) : Int := (bif sck (intV (hdV (g (0 : Nat))), intV (hdV (tlV (g (0 : Nat))))) != (0 : Int) then (0 : Int) else (bif decide (who < (0 : Int)) then (0 : Int) else (bif decide (who > (31 : Int)) then (0 : Int) else (bif decide (Prod.fst (sxV (stp ((fun j => g (j + (0 : Nat))) (0 : Nat)))) ≥ (1000000 : Int)) then (0 : Int) else (IntKind.wrap IntKind.i64 ((sxV (intV (hdV (g (0 : Nat))), intV (hdV (tlV (g (0 : Nat)))))).1 + (1 : Int)))))))
def x1_rnx (g : Nat → List Value) (who : Int) : Int := (bif sck (intV (hdV (g (0 : Nat))), intV (hdV (tlV (g (0 : Nat))))) != (0 : Int) then (0 : Int) else (bif decide (who < (0 : Int)) then (0 : Int) else (bif decide (who > (31 : Int)) then (0 : Int) else (bif decide (Prod.fst (sxV (stp ((fun j => g (j + (0 : Nat))) (0 : Nat)))) ≥ (1000000 : Int)) then (0 : Int) else (who)))))
def x2_rnx (g : Nat → List Value) (who : Int) : Int := (bif sck (intV (hdV (g (0 : Nat))), intV (hdV (tlV (g (0 : Nat))))) != (0 : Int) then (sck (intV (hdV (g (0 : Nat))), intV (hdV (tlV (g (0 : Nat)))))) else (bif decide (who < (0 : Int)) then (3 : Int) else (bif decide (who > (31 : Int)) then (3 : Int) else (bif decide (Prod.fst (sxV (stp ((fun j => g (j + (0 : Nat))) (0 : Nat)))) ≥ (1000000 : Int)) then (3 : Int) else (0 : Int)))))
def g_rnx : List CA → Option Value
  | [.rows _ _ g, .val (.int .i64 who)] => some (.tuple ⟨[.agg ⟨[.int .i64 (x0_rnx g who), .int .i64 (x1_rnx g who)]⟩, .int .i64 (x2_rnx g who)]⟩)
  | _ => none
def a_rnx (l : List CA) : Prop :=
  match nthL l 0 with
  | some (.rows _ m _) => m = 1
  | _ => False
theorem q_rnx : QOk K35.P 34 (listA [.one (.rows stK), .one .val] a_rnx g_rnx) := list_qA K35_ok Try.func34 rfl rfl (no_loops rfl) fun cas r hb hk ha h => by
  unfold g_rnx at h
  split at h
  · rename_i sh0 m g who
    have e0 := kind_rows (i := 0) hk rfl rfl
    have hbm := bnd_rows (i := 0) hb rfl
    subst e0
    have ha : m = 1 := ha
    cases h
    refine ⟨rfl, ?_⟩
    show (evV K35 noL _ [.slice (some ⟨0, 0, some 0⟩) m m, .int .i64 who] [.recs stK m g]).sat _
    rw [run_rnx]
    exact sat_ask (by first | omega | exact ⟨Nat.le_refl _, by assumption⟩ | exact ⟨rfl, rfl⟩ | exact ha | simp_all) (sat_ask (by first | omega | exact ⟨Nat.le_refl _, by assumption⟩ | exact ⟨rfl, rfl⟩ | exact ha | simp_all) (sat_tst (fun h0 => leaf_v (by simp only [x0_rnx, x1_rnx, x2_rnx, h0, cond_true])) (fun h0 => sat_tst (fun h1 => leaf_v (by simp only [x0_rnx, x1_rnx, x2_rnx, h0, h1, cond_true, cond_false])) (fun h1 => sat_tst (fun h2 => leaf_v (by simp only [x0_rnx, x1_rnx, x2_rnx, h0, h1, h2, cond_true, cond_false])) (fun h2 => sat_tst (fun h3 => leaf_v (by simp only [x0_rnx, x1_rnx, x2_rnx, h0, h1, h2, h3, cond_true, cond_false])) (fun h3 => leaf_v (by simp only [x0_rnx, x1_rnx, x2_rnx, h0, h1, h2, h3, cond_false])))))))
  · cases h
-- @end
-- @file nh.chain
noncomputable def K36 : Kn := K35.addQ 34 (listA [.one (.rows stK), .one .val] a_rnx g_rnx)
theorem K36_ok : K36.Ok := K35_ok.addQ q_rnx
-- @end
section
variable {m : Nat} {g : Nat → List Value} {need op k p : Int} {d : ByteArray} {t w : Int} {s : ByteArray} {hd mk mo n x y : Int} {z : ByteArray}
theorem rack_y (h : (x_rack m g need op k p d t w s hd == 0) = true) : (1 : Int) ≤ (m : Int) ∧ (m : Int) ≤ 12 := rack_n (by have := eq_of_beq h; rw [this]; rfl)
theorem rack_so (h : (x_rack m g need op k p d t w s hd == 0) = true) : m ≤ 12 ∧ anyB (wsOf m g) = false := by
  have h := eq_of_beq h
  unfold x_rack at h
  have eta : (fun j => g j) = g := rfl
  rw [rqc_eq, eta, cz2] at h
  have := qE_m h.1
  rw [ws_len] at this
  exact ⟨by omega, this.2.2.1⟩
theorem rmchk_n (h : (x_rmchk mk mo n x y z != 0) = false) : 0 ≤ n := by rw [rmchk_eq] at h; exact wchk_n h
end
end Go.Proofs.Ytbmbnbhedalcnaa
