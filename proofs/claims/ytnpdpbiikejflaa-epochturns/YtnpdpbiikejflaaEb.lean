/- What epochs answer: what is to be shown. -/
import Derived.Test.YtnpdpbiikejflaaEa
import Derived.Test.YtnpdpbiikejflaaZw
import Derived.WalkKit
import Derived.ProofKit
import Derived.BigQuiet
import Derived.BigRegion
namespace Go.Proofs.Ytnpdpbiikejflaa
open Go.RowKit
theorem mixed : Try.prog.follows Departure.mixedOrders = true := by kernel_rfl
noncomputable def K0 : Kn := Kn.start Try.prog
theorem K0_ok : K0.Ok := Kn.start_ok mixed
theorem ret_i {a b : Int} (h : a = b) : [some (Value.int .i64 a)] = [some (Value.int .i64 b)] := by rw [h]
theorem ret_b {a b : Bool} (h : a = b) : [some (Value.bool a)] = [some (Value.bool b)] := by rw [h]
theorem wrap_at {k n : Nat} (h : k < n) (hn : n ≤ 140737488355328) : IntKind.wrap IntKind.i64 ((k : Int) + 1) = ((k + 1 : Nat) : Int) := by
  have h2 : ((k + 1 : Nat) : Int) = (k : Int) + 1 := by omega
  rw [h2]
  rw [IntKind.wrap_i64]
  omega
theorem U_wf {x : Int} (h : (Lit.int .u64 x).wf = true) : U x := by
  unfold Lit.wf at h
  rw [Bool.and_eq_true] at h
  have h1 : (0 : Int) ≤ x := of_decide_eq_true h.1
  have h2 : x ≤ 18446744073709551615 := of_decide_eq_true h.2
  exact ⟨h1, by omega⟩
abbrev vK : CK := .one .val
abbrev ekK : List LK := [.kInt .i64, .kInt .u64]
abbrev no (l : List Value) : Int := intV (hdV l)
abbrev me (l : List Value) : Int := intV (hdV (tlV l))
def aOc : List CA → Prop
  | [.val (.int .u64 x)] => U x
  | _ => False
def gOc : List CA → Option Value
  | [.val (.int .u64 x)] => some (.int .i64 (pc x.toNat))
  | _ => none
noncomputable def K1 : Kn := K0.addQ 24 (listA [vK] aOc gOc)
/-- all members are numbers of 64 bits -/
def RU (m : Nat) (g : Nat → List Value) : Prop := ∀ j, j < m → U (me (g j))
/-- what is wrong with the epoch of a place -/
def errAt (g : Nat → List Value) (j : Nat) : Int :=
  bif no (g j) != (j : Int) + 1 then 4 else bif decide (4096 ≤ me (g j)) then 3 else bif me (g j) == 0 then 8 else bif decide (0 < j) && !Nat.beq (pc ((me (g j)).toNat ^^^ (me (g (j - 1))).toNat)) 1 then 1 else 0
/-- the first of the first k -/
def firstE (g : Nat → List Value) : Nat → Int
  | 0 => 0
  | k + 1 => bif firstE g k != 0 then firstE g k else errAt g k
def chE (m : Nat) (g : Nat → List Value) : Int := bif decide (64 < m) then 2 else firstE g m
theorem firstE_stop {g : Nat → List Value} {j : Nat} (h0 : firstE g j = 0) (h : errAt g j ≠ 0) : ∀ {m}, j < m → firstE g m = errAt g j
  | 0, hj => by omega
  | m + 1, hj => by
    unfold firstE
    by_cases e : j = m
    · subst e
      rw [h0]
      rfl
    · rw [firstE_stop h0 h (m := m) (by omega)]
      have : (errAt g j != 0) = true := by simpa using h
      rw [this]
      rfl
theorem firstE_step {g : Nat → List Value} {j : Nat} (h0 : firstE g j = 0) (h : errAt g j = 0) : firstE g (j + 1) = 0 := by
  unfold firstE
  rw [h0]
  exact h
theorem firstE_all {g : Nat → List Value} : ∀ {m : Nat}, firstE g m = 0 → ∀ j, j < m → errAt g j = 0 ∧ firstE g j = 0
  | 0, _, j, hj => by omega
  | m + 1, h, j, hj => by
    unfold firstE at h
    by_cases e0 : firstE g m = 0
    · rw [e0] at h
      by_cases e : j = m
      · subst e
        exact ⟨h, e0⟩
      · exact firstE_all e0 j (by omega)
    · have : (firstE g m != 0) = true := by simpa using e0
      rw [this] at h
      exact absurd h e0
theorem firstE_of {g : Nat → List Value} : ∀ {m : Nat}, (∀ j, j < m → errAt g j = 0) → firstE g m = 0
  | 0, _ => rfl
  | m + 1, h => firstE_step (firstE_of fun j hj => h j (by omega)) (h m (by omega))
theorem firstE_congr {g h : Nat → List Value} : ∀ {m : Nat}, (∀ j, j < m → errAt g j = errAt h j) → firstE g m = firstE h m
  | 0, _ => rfl
  | m + 1, e => by
    unfold firstE
    rw [firstE_congr (m := m) fun j hj => e j (by omega), e m (by omega)]
def aCk : List CA → Prop
  | [.rows _ m g] => RU m g
  | _ => False
def gCk : List CA → Option Value
  | [.rows _ m g] => some (.int .i64 (chE m g))
  | _ => none
def keepFE : AE → List Nat
  | .normal => [1, 8, 9, 10]
  | .exit _ => []
  | .ret => [4]
def gFEL : List Value → List AObj → (AE → List Value → List AObj → Out) → Out
  | [.func (.func f) ⟨[]⟩ ⟨[.pointer (some ⟨1, 0, none⟩)]⟩, .slice (some ⟨0, 0, some 0⟩) len c, .int .i64 n, .int .i64 i], [.recs sh m g, .cells T [.slice (some ⟨0, 0, some 0⟩) l2 c2]], k => (match shEq sh ekK && Nat.beq f 23 with
    | true => .ask (len = m ∧ c = m ∧ n = m ∧ i = 0 ∧ l2 = m ∧ c2 = m ∧ m ≤ 64 ∧ RU m g) (tst (firstE g m != 0) (k .ret [.int .i64 (firstE g m)] [.recs sh m g, .cells T [.slice (some ⟨0, 0, some 0⟩) l2 c2]]) (k (.exit 0) [] [.recs sh m g, .cells T [.slice (some ⟨0, 0, some 0⟩) l2 c2]]))
    | false => .bad)
  | _, _, _ => .bad
noncomputable def K2 : Kn := K1.addM 23 (inl K1 noL Try.f23)
def lFE : Nat → Option LCon := oneL 2 (lspec 23 keepFE 2 gFEL)
noncomputable def K3 : Kn := K2.addM 22 (inl K2 lFE Try.f22)
def gMj : List CA → Option Value
  | [.val (.agg ⟨[.int .i64 _, .int .u64 x]⟩), .val (.int .u64 s)] => some (.bool (decide (2 * pc (x.toNat &&& s.toNat) > pc x.toNat)))
  | _ => none
def aMj : List CA → Prop
  | [.val (.agg ⟨[.int .i64 _, .int .u64 x]⟩), .val (.int .u64 s)] => U x ∧ U s
  | _ => False
/-- an epoch of a list -/
abbrev epV (l : List Value) : Value := .agg ⟨[.int .i64 (no l), .int .u64 (me l)]⟩
def epz : Value := .agg ⟨[.int .i64 0, .int .u64 0]⟩
/-- what At answers -/
def atE (m : Nat) (g : Nat → List Value) (n : Int) : Int := bif chE m g != 0 then chE m g else bif decide (n < 1) then 5 else bif decide (n > (m : Int)) then 5 else 0
def atN (m : Nat) (g : Nat → List Value) (n : Int) : Int := bif atE m g n != 0 then 0 else no (g (n - 1).toNat)
def atM (m : Nat) (g : Nat → List Value) (n : Int) : Int := bif atE m g n != 0 then 0 else me (g (n - 1).toNat)
def gAt : List CA → Option Value
  | [.rows _ m g, .val (.int .i64 n)] => some (.tuple ⟨[.agg ⟨[.int .i64 (atN m g n), .int .u64 (atM m g n)]⟩, .int .i64 (atE m g n)]⟩)
  | _ => none
def aRow1 : List CA → Prop
  | [.rows _ m g, .val (.int .i64 _)] => RU m g
  | _ => False
/-- who is in all of the first k -/
def andK (g : Nat → List Value) : Nat → Nat
  | 0 => 0
  | 1 => (me (g 0)).toNat
  | k + 2 => andK g (k + 1) &&& (me (g (k + 1))).toNat
def coE (m : Nat) (g : Nat → List Value) : Int := bif chE m g != 0 then 0 else andK g m
def gCo : List CA → Option Value
  | [.rows _ m g] => some (.tuple ⟨[.int .u64 (coE m g), .int .i64 (chE m g)]⟩)
  | _ => none
def keepCo : AE → List Nat
  | .normal => []
  | .exit _ => []
  | .ret => []
end Go.Proofs.Ytnpdpbiikejflaa
