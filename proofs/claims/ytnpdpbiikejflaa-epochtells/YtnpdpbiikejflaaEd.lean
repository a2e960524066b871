/- Sets, majorities, who is common: what is to be shown. -/
import Derived.Test.YtnpdpbiikejflaaEc
namespace Go.Proofs.Ytnpdpbiikejflaa
open Go.RowKit
def aIn : List CA → Prop
  | [.val (.int .u64 x), .val (.int .i64 n)] => U x ∧ 0 ≤ n
  | _ => False
def gIn : List CA → Option Value
  | [.val (.int .u64 x), .val (.int .i64 n)] => some (.bool (x.toNat.testBit n.toNat))
  | _ => none
noncomputable def K5 : Kn := K4.addQ 20 (listA [vK, vK] aIn gIn)
def keepSz : AE → List Nat
  | .normal => [0, 3, 4]
  | .exit _ => [3]
  | .ret => []
def gSzL : List Value → List AObj → (AE → List Value → List AObj → Out) → Out
  | [.int .u64 x, .int .i64 n, .int .i64 i], [], k => .ask (n = 0 ∧ i = 0 ∧ U x) (k (.exit 0) [.int .i64 (pc x.toNat)] [])
  | _, _, _ => .bad
def lSz : Nat → Option LCon := oneL 3 (lspec 15 keepSz 0 gSzL)
noncomputable def K6 : Kn := K5.addQ 19 (listA [vK] aOc gOc)
noncomputable def K7 : Kn := K6.addQ 17 (listA [vK, vK] aMj gMj)
noncomputable def K8 : Kn := K7.addQ 9 (listA [.one (.rows ekK), vK] aRow1 gAt)
theorem andK_lt {m : Nat} {g : Nat → List Value} (h : RU m g) : ∀ k, k ≤ m → andK g k < 18446744073709551616
  | 0, _ => by show 0 < 18446744073709551616; decide
  | 1, hk => by obtain ⟨n, e, hn⟩ := (h 0 (by omega)).nat; unfold andK; rw [e]; simpa using hn
  | k + 2, hk => Nat.lt_of_le_of_lt Nat.and_le_left (andK_lt h (k + 1) (by omega))
def keepCom : AE → List Nat
  | .normal => [5, 23, 24, 25]
  | .exit _ => [5]
  | .ret => []
def gCoL : List Value → List AObj → (AE → List Value → List AObj → Out) → Out
  | [.int .u64 x, .slice (some ⟨0, 0, some 1⟩) l c, .int .i64 n, .int .i64 i], [.recs sh m g], k => (match shEq sh ekK with
    | true => .ask (x = me (g 0) ∧ l + 1 = m ∧ c = l ∧ n = l ∧ i = 0 ∧ m ≤ 64 ∧ RU m g) (k (.exit 0) [.int .u64 (andK g m)] [.recs sh m g])
    | false => .bad)
  | _, _, _ => .bad
def lCo : Nat → Option LCon := oneL 6 (lspec 35 keepCom 1 gCoL)
noncomputable def K9 : Kn := K8.addQ 10 (listA [.one (.rows ekK)] aCk gCo)
end Go.Proofs.Ytnpdpbiikejflaa
