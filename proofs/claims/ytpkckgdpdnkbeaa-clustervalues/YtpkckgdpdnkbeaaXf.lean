/- What majorities answer of sets; small functions of seats: what is to be shown. -/
import Derived.Test.YtpkckgdpdnkbeaaXe
namespace Go.Proofs.Ytpkckgdpdnkbeaa
open Go.RowKit
theorem leaf_v {a b : Value} {H : List AObj} (h : b = a) : (Out.done .ret ⟨[some a], H⟩).sat fun _ S => S.slots = [some b] := by subst h; exact rfl
theorem clean_b {b : Bool} {x y : Value} (h1 : clean x = true) (h2 : clean y = true) : clean (bif b then x else y) = true := by cases b; exact h2; exact h1
/-- a set's bit -/
def btR (s k : Int) : Int := IntKind.wrap IntKind.u64 (↑(BitVec.toNat (BitVec.ofInt (IntKind.bits IntKind.u64) (shrV IntKind.u64 s k) &&& BitVec.ofInt (IntKind.bits IntKind.u64) (1 : Int))) : Int)
/-- what those of a set among the first k weigh -/
def smK (L : List Int) (s : Int) : Nat → Int
  | 0 => 0
  | k + 1 => if btR s (k : Int) = 1 then smK L s k + L[k]?.getD 0 else smK L s k
theorem sm_le {L : List Int} (h : anyB L = false) (s : Int) : ∀ k, k ≤ L.length → 0 ≤ smK L s k ∧ smK L s k ≤ 100 * k
  | 0, _ => by simp [smK]
  | k + 1, hk => by
    have ih := sm_le h s k (by omega)
    have hg : wBad (L[k]?.getD 0) = false := by
      have hm : L[k]?.getD 0 ∈ L := by rw [List.getElem?_eq_getElem (by omega)]; exact List.getElem_mem _
      unfold anyB at h
      rw [List.any_eq_false] at h
      simpa using h _ hm
    have : ¬ (L[k]?.getD 0 < 0 ∨ 100 < L[k]?.getD 0) := of_decide_eq_false hg
    unfold smK
    split <;> omega
def sE (L : List Int) (s : Int) : Int := if wE L ≠ 0 then wE L else if shrV .u64 s (L.length : Int) ≠ 0 then 3 else 0
def sV (L : List Int) (s : Int) : Int := if sE L s = 0 then smK L s L.length else 0
def gSum : List CA → Option Value
  | [.rows _ len g, .val (.int .u64 s)] => some (.tuple ⟨[.int .i64 (sV (wsOf len g) s), .int .i64 (sE (wsOf len g) s)]⟩)
  | _ => none
def keepSum : AE → List Nat
  | .normal => [2, 3, 7, 16, 17, 18]
  | .exit _ => [7]
  | .ret => []
def gSumL : List Value → List AObj → (AE → List Value → List AObj → Out) → Out
  | [.pointer (some ⟨1, 0, none⟩), .pointer (some ⟨2, 0, none⟩), .int .i64 z, .slice (some ⟨0, 0, some 0⟩) len c, .int .i64 n, .int .i64 i], [.recs sh m g, .cells T1 [.slice (some ⟨0, 0, some 0⟩) len1 c1], .cells T2 [.int .u64 s]], k => (match shEq sh wtK with
    | true => .ask (z = 0 ∧ len = m ∧ c = m ∧ len1 = m ∧ c1 = m ∧ n = m ∧ i = 0 ∧ m ≤ 12 ∧ anyB (wsOf m g) = false) (k (.exit 0) [.int .i64 (smK (wsOf m g) s m)] [.recs sh m g, .cells T1 [.slice (some ⟨0, 0, some 0⟩) len1 c1], .cells T2 [.int .u64 s]])
    | false => .bad)
  | _, _, _ => .bad
def lSum : Nat → Option LCon := oneL 6 (lspec 33 keepSum 3 gSumL)
noncomputable def K11 : Kn := (K10.addQ 22 (listC [.one (.rows wtK), vK] gQCheck)).addQ 42 (listC [.one (.rows wtK), vK] gSum)
end Go.Proofs.Ytpkckgdpdnkbeaa
