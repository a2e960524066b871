/- Lists held against each other, the reference's ways: what is to be shown. -/
import Derived.Test.YtnpdpbiikejflaaEe
namespace Go.Proofs.Ytnpdpbiikejflaa
open Go.RowKit
-- @file ef_eq.out
def e_epoch : Value → Value → Option Bool
  | .agg ⟨[.int .i64 a0, .int .u64 a1]⟩, .agg ⟨[.int .i64 b0, .int .u64 b1]⟩ => some (decide (a0 = b0 ∧ a1 = b1))
  | _, _ => none
theorem e_epoch_ok : EOk K9.P 25 e_epoch := by
  refine ⟨by kernel_rfl, fun x y b h => ?_⟩
  unfold e_epoch at h
  split at h
  · rename_i a0 a1 b0 b1
    cases h
    refine ⟨⟨_, rfl⟩, ⟨_, rfl⟩, fun w => ?_⟩
    show Sem.run Try.prog (Op.equal 25 (.agg #[.int .i64 a0, .int .u64 a1]) (.agg #[.int .i64 b0, .int .u64 b1])) w = _
    unfold Op.equal Op.maxDepth Op.equalIn
    simp [go_sem]
    by_cases h0 : a0 = b0
    rotate_left
    · simp [h0]
    simp [h0]
    by_cases h1 : a1 = b1
    rotate_left
    · simp [h1]
    simp [h1]
  · cases h
noncomputable def K10 : Kn := K9.addE 25 e_epoch
theorem K10_ok : K10.Ok := K9_ok.addE e_epoch_ok
-- @end
/-- are two epochs one? -/
def eE (g h : Nat → List Value) (j : Nat) : Bool := decide (no (g j) = no (h j) ∧ me (g j) = me (h j))
def sameE (g h : Nat → List Value) : Nat → Bool
  | 0 => true
  | k + 1 => sameE g h k && eE g h k
theorem sameE_stop {g h : Nat → List Value} {j : Nat} (hv : eE g h j = false) : ∀ {n : Nat}, j < n → sameE g h n = false
  | 0, hj => by omega
  | n + 1, hj => by
    show (sameE g h n && eE g h n) = false
    by_cases e : j = n
    · subst e; rw [hv, Bool.and_false]
    · rw [sameE_stop hv (n := n) (by omega), Bool.false_and]
theorem sameE_of {g h : Nat → List Value} : ∀ {n : Nat}, (∀ j, j < n → no (g j) = no (h j) ∧ me (g j) = me (h j)) → sameE g h n = true
  | 0, _ => rfl
  | n + 1, e => by
    show (sameE g h n && eE g h n) = true
    rw [sameE_of (n := n) fun j hj => e j (by omega), show eE g h n = true from decide_eq_true (e n (by omega))]
    rfl
def gSE : List CA → Option Value
  | [.rows _ m g, .rows _ m2 h] => some (.bool (bif Nat.beq m m2 then sameE g h m else false))
  | _ => none
def keepSE : AE → List Nat
  | .normal => [0, 1, 5]
  | .exit _ => []
  | .ret => [4]
def gSEL : List Value → List AObj → (AE → List Value → List AObj → Out) → Out
  | [.slice (some ⟨0, 0, some 0⟩) l c, .slice (some ⟨1, 0, some 0⟩) l2 c2, .int .i64 i], [.recs sh m g, .recs sh2 m2 h], k => (match shEq sh ekK && shEq sh2 ekK with
    | true => .ask (l = m ∧ c = m ∧ l2 = m2 ∧ c2 = m2 ∧ m = m2 ∧ i = 0 ∧ m ≤ 140737488355328) (tst (sameE g h m) (k (.exit 0) [] [.recs sh m g, .recs sh2 m2 h]) (k .ret [.bool false] [.recs sh m g, .recs sh2 m2 h]))
    | false => .bad)
  | _, _, _ => .bad
def lSE : Nat → Option LCon := oneL 4 (lspec 26 keepSE 2 gSEL)
noncomputable def K11 : Kn := K10.addQ 16 (listC [.one (.rows ekK), .one (.rows ekK)] gSE)
def keepRC : AE → List Nat
  | .normal => [0, 3]
  | .exit _ => []
  | .ret => [2]
def gRCL : List Value → List AObj → (AE → List Value → List AObj → Out) → Out
  | [.slice (some ⟨0, 0, some 0⟩) l c, .int .i64 i], [.recs sh m g], k => (match shEq sh ekK with
    | true => .ask (l = m ∧ c = m ∧ i = 0 ∧ m ≤ 64 ∧ RU m g) (tst (firstE g m != 0) (k .ret [.int .i64 (firstE g m)] [.recs sh m g]) (k (.exit 0) [] [.recs sh m g]))
    | false => .bad)
  | _, _, _ => .bad
def lRC : Nat → Option LCon := oneL 4 (lspec 52 keepRC 1 gRCL)
noncomputable def K12 : Kn := K11.addQ 12 (listA [.one (.rows ekK)] aCk gCk)
def keepMO : AE → List Nat
  | .normal => [1, 2, 5, 6, 7]
  | .exit _ => [5, 6]
  | .ret => []
/-- in, and out -/
def inB (x s i : Nat) : Bool := x.testBit i && s.testBit i
def outB (x s i : Nat) : Bool := x.testBit i && !s.testBit i
def gMOL : List Value → List AObj → (AE → List Value → List AObj → Out) → Out
  | [.int .u64 s, .pointer (some ⟨0, 0, none⟩), .int .i64 p, .int .i64 q, .int .i64 i], [.cells T [.int .i64 n, .int .u64 x]], k => .ask (p = 0 ∧ q = 0 ∧ i = 0 ∧ U x ∧ U s) (k (.exit 0) [.int .i64 (cnt (inB x.toNat s.toNat) 64), .int .i64 (cnt (outB x.toNat s.toNat) 64)] [.cells T [.int .i64 n, .int .u64 x]])
  | _, _, _ => .bad
def lMO : Nat → Option LCon := oneL 3 (lspec 38 keepMO 1 gMOL)
noncomputable def K13 : Kn := K12.addQ 18 (listA [vK, vK] aMj gMj)
/-- is b in the first k? -/
def allIn (g : Nat → List Value) (b : Nat) : Nat → Bool
  | 0 => true
  | k + 1 => allIn g b k && (me (g k)).toNat.testBit b
def bitsum (f : Nat → Bool) : Nat → Nat
  | 0 => 0
  | k + 1 => bitsum f k + (bif f k then 2 ^ k else 0)
theorem bitsum_lt (f : Nat → Bool) : ∀ k, bitsum f k < 2 ^ k
  | 0 => by show 0 < 1; decide
  | k + 1 => by
    have := bitsum_lt f k
    unfold bitsum
    rw [Nat.pow_succ]
    cases f k
    · show bitsum f k + 0 < _; omega
    · show bitsum f k + 2 ^ k < _; omega
theorem bitsum_bit (f : Nat → Bool) : ∀ k i, (bitsum f k).testBit i = (decide (i < k) && f i)
  | 0, i => by simp [bitsum]
  | k + 1, i => by
    have hl := bitsum_lt f k
    unfold bitsum
    cases hf : f k with
    | false =>
      show (bitsum f k + 0).testBit i = _
      rw [Nat.add_zero, bitsum_bit f k i]
      by_cases e : i = k
      · subst e; simp [hf]
      · have : decide (i < k + 1) = decide (i < k) := by simp only [decide_eq_decide]; omega
        rw [this]
    | true =>
      show (bitsum f k + 2 ^ k).testBit i = _
      have := Nat.testBit_two_pow_mul_add 1 hl i
      rw [Nat.mul_one, Nat.add_comm] at this
      rw [this]
      by_cases h1 : i < k
      · rw [if_pos h1, bitsum_bit f k i, decide_eq_true h1, decide_eq_true (show i < k + 1 by omega)]
      · rw [if_neg h1]
        by_cases e : i = k
        · subst e; simp [hf]
        · rw [decide_eq_false (show ¬ i < k + 1 by omega), Bool.false_and]
          have : (1 : Nat).testBit (i - k) = false := by
            rw [show (1 : Nat) = 2 ^ 0 from rfl, Nat.testBit_two_pow]
            simp only [decide_eq_false_iff_not]
            omega
          exact this
def coN (m : Nat) (g : Nat → List Value) : Nat := bif Nat.beq m 0 then 0 else bitsum (fun b => allIn g b m) 12
def gCN : List CA → Option Value
  | [.rows _ m g] => some (.int .u64 (coN m g))
  | _ => none
/-- the loop within -/
noncomputable def inn : Code := (nthL (loops (bodyOf Try.f13 0)) 0).getD .skip
def keepI : AE → List Nat
  | .normal => [0, 3, 4, 5, 6]
  | .exit _ => [0, 3, 4, 5]
  | .ret => []
def gIL : List Value → List AObj → (AE → List Value → List AObj → Out) → Out
  | [.slice (some ⟨0, 0, some 0⟩) l c, .int .u64 st, .int .i64 n, .bool b, .int .i64 i], [.recs sh m g], k => (match shEq sh ekK with
    | true => .ask (l = m ∧ c = m ∧ b = true ∧ i = 0 ∧ m ≤ 140737488355328 ∧ RU m g ∧ 0 ≤ n) (k (.exit 2) [.slice (some ⟨0, 0, some 0⟩) m m, .int .u64 st, .int .i64 n, .bool (allIn g n.toNat m)] [.recs sh m g])
    | false => .bad)
  | _, _, _ => .bad
def lI : Nat → Option LCon := oneL 7 (lspec 38 keepI 1 gIL)
def keepO : AE → List Nat
  | .normal => [0, 3, 4]
  | .exit _ => [3]
  | .ret => []
def gOL : List Value → List AObj → (AE → List Value → List AObj → Out) → Out
  | [.slice (some ⟨0, 0, some 0⟩) l c, .int .u64 st, .int .i64 n], [.recs sh m g], k => (match shEq sh ekK with
    | true => .ask (l = m ∧ c = m ∧ st = 0 ∧ n = 0 ∧ m ≤ 140737488355328 ∧ RU m g) (k (.exit 0) [.int .u64 (coN m g)] [.recs sh m g])
    | false => .bad)
  | _, _, _ => .bad
def lO : Nat → Option LCon := addL lI 3 (lspec 38 keepO 1 gOL)
noncomputable def K14 : Kn := K13.addQ 13 (listA [.one (.rows ekK)] aCk gCN)
end Go.Proofs.Ytnpdpbiikejflaa
