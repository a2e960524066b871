/- Who is stale: the law's loop. -/
import Derived.Test.YtcplbpnpcmgjfabYt
import Derived.Test.YtcplbpnpcmgjfabVf
namespace Go.Proofs.Ytcplbpnpcmgjfab
open Go.RowKit
/-- R.InSet -/
def inS (s k : Int) : Bool := Int.tmod (shrV .u64 s k) 2 == 1
def gInSet : List CA → Option Value
  | [.val (.int .u64 s), .val (.int .i64 k)] => some (.bool (inS s k))
  | _ => none
def aInSet : List CA → Prop
  | [.val (.int .u64 _), .val (.int .i64 k)] => 0 ≤ k
  | _ => False
noncomputable def K9 : Kn := K8.addQ 12 (listA [.val, .val] aInSet gInSet)
theorem run_inset (s k : Int) : evV K8 noL Try.f12 [.int .u64 s, .int .i64 k] [] = Out.ask ((0 : Int) ≤ k) (Out.ask ((2 : Int) ≠ (0 : Int) ∧ IntKind.u64 = IntKind.u64) (Out.done AE.ret { slots := [some (Value.bool (Int.tmod (shrV IntKind.u64 s k) (2 : Int) == (1 : Int)))], heap := [] })) := by kernel_rfl
theorem q_inset : QOk K8.P 12 (listA [.val, .val] aInSet gInSet) := list_qA K8_ok Try.func12 rfl rfl (no_loops rfl) fun cas r _hb _hk ha h => by
  unfold gInSet at h
  split at h
  · rename_i s k
    cases h
    refine ⟨rfl, ?_⟩
    show (evV K8 noL _ [.int .u64 s, .int .i64 k] []).sat _
    rw [run_inset]
    exact sat_ask ha (sat_ask ⟨by decide, rfl⟩ rfl)
  · cases h
theorem K9_ok : K9.Ok := K8_ok.addQ q_inset
theorem slK_bit (L : List Cp) (m : St) (k : Nat) : ∀ n, k < n → (slK L m n).testBit k = slt (L[k]?.getD cz).1 m
  | 0, h => by omega
  | n + 1, h => by
    have ih := slK_bit L m k n
    rw [slK]
    by_cases e : k = n
    · subst e
      have hlt := Nat.testBit_lt_two_pow (slK_lt L m k)
      cases hs : slt (L[k]?.getD cz).1 m with
      | true => rw [if_pos rfl, Nat.add_comm, Nat.testBit_two_pow_add_eq, hlt]; rfl
      | false => rw [if_neg (by decide), Nat.add_zero]; exact hlt
    · rw [← ih (by omega)]
      split
      · rw [Nat.add_comm, Nat.testBit_two_pow_add_gt (by omega)]
      · rfl
theorem inS_bit {s k : Nat} (hk : k < 64) : inS s k = s.testBit k := by
  have e : shrV .u64 (s : Int) (k : Int) = ((s / 2 ^ k : Nat) : Int) := by
    unfold shrV
    have h1 : min (Int.toNat (k : Int)) (IntKind.bits IntKind.u64) = k := by
      show min k 64 = k
      omega
    rw [h1, Int.fdiv_eq_ediv_of_nonneg _ (Int.pow_nonneg (by decide))]
    push_cast
    rfl
  unfold inS
  rw [e, Nat.testBit_eq_decide_div_mod_eq]
  have h2 : Int.tmod ((s / 2 ^ k : Nat) : Int) 2 = ((s / 2 ^ k % 2 : Nat) : Int) := by
    rw [Int.tmod_eq_emod_of_nonneg (Int.natCast_nonneg _)]
    rfl
  rw [h2]
  generalize s / 2 ^ k % 2 = z
  rw [Bool.eq_iff_iff]
  simp only [beq_iff_eq, decide_eq_true_eq]
  omega
/-- is one of the first k not in s? -/
def tpK (s : Int) : Nat → Bool
  | 0 => false
  | k + 1 => tpK s k || !inS s k
def keepSL : AE → List Nat
  | .normal => [0, 1, 5, 7, 8, 9]
  | .exit _ => [0, 1, 5, 7, 8]
  | .ret => [2]
def gSL : List Value → List AObj → (AE → List Value → List AObj → Out) → Out
  | [.slice (some ⟨0, 0, none⟩) len cap, .int .i64 i, .int .u64 s, .bool b, .bool t, .int .i64 j], [.recs sh m g], k => (match shEq sh cpK with
    | true => .ask (b = false ∧ t = false ∧ j = 0 ∧ m = len ∧ len ≤ 12 ∧ 0 ≤ i ∧ i < len)
        (k (.exit 0) [.slice (some ⟨0, 0, none⟩) len cap, .int .i64 i, .int .u64 s, .bool (abv (cpsOf len g) i.toNat len), .bool (tpK s len)] [.recs sh m g])
    | false => .bad)
  | _, _, _ => .bad
def lSL : Nat → Option LCon := oneL 8 (lspec 70 keepSL 1 gSL)
end Go.Proofs.Ytcplbpnpcmgjfab
