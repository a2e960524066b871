/- What majorities answer: what is to be shown. -/
import Derived.Test.YtpkckgdpdnkbeaaXc
namespace Go.Proofs.Ytpkckgdpdnkbeaa
open Go.RowKit
abbrev wtK : List LK := [.kInt .i64]
/-- weights -/
def wsOf (len : Nat) (g : Nat → List Value) : List Int := (List.range len).map fun j => intV (hdV (g j))
theorem ws_len (len : Nat) (g : Nat → List Value) : (wsOf len g).length = len := by simp [wsOf]
theorem ws_at {len j : Nat} (g : Nat → List Value) (h : j < len) : (wsOf len g)[j]?.getD 0 = intV (hdV (g j)) := by simp [wsOf, h]
/-- a weight that is none -/
def wBad (x : Int) : Bool := decide (x < 0 ∨ 100 < x)
def fIx : List Int → Nat → Int
  | [], _ => -1
  | x :: l, k => if wBad x = true then (k : Int) else fIx l (k + 1)
def anyB (L : List Int) : Bool := L.any wBad
theorem fIx_any : ∀ (L : List Int) (k : Nat), decide (fIx L k ≥ 0) = anyB L
  | [], k => rfl
  | x :: l, k => by
    unfold fIx
    cases hb : wBad x with
    | true => simp [anyB, hb]
    | false =>
      have := fIx_any l (k + 1)
      simp only [anyB, List.any_cons, hb, Bool.false_or] at this ⊢
      exact this
theorem fIx_at : ∀ (L : List Int) (k j : Nat), j < L.length → (∀ i, i < j → wBad (L[i]?.getD 0) = false) → wBad (L[j]?.getD 0) = true → fIx L k = ((k + j : Nat) : Int)
  | x :: l, k, 0, _, _, h => by
    simp at h
    unfold fIx
    rw [if_pos h]
    rfl
  | x :: l, k, j + 1, hl, h0, h => by
    have := h0 0 (by omega)
    simp at this
    unfold fIx
    rw [if_neg (by rw [this]; decide), fIx_at l (k + 1) j (by simpa using hl) (fun i hi => by have := h0 (i + 1) (by omega); simpa using this) (by simpa using h)]
    congr 1
    omega
  | [], _, _, hl, _, _ => by simp at hl
theorem fIx_all : ∀ (L : List Int) (k : Nat), (∀ i, i < L.length → wBad (L[i]?.getD 0) = false) → fIx L k = -1
  | [], _, _ => rfl
  | x :: l, k, h => by
    have := h 0 (by simp)
    simp at this
    unfold fIx
    rw [if_neg (by rw [this]; decide)]
    exact fIx_all l (k + 1) fun i hi => by have := h (i + 1) (by simpa using hi); simpa using this
/-- what the first k weigh -/
def totK (L : List Int) : Nat → Int
  | 0 => 0
  | k + 1 => totK L k + L[k]?.getD 0
theorem tot_le {L : List Int} (h : anyB L = false) : ∀ k, k ≤ L.length → 0 ≤ totK L k ∧ totK L k ≤ 100 * k
  | 0, _ => by simp [totK]
  | k + 1, hk => by
    have ih := tot_le h k (by omega)
    have hg : wBad (L[k]?.getD 0) = false := by
      have hm : L[k]?.getD 0 ∈ L := by rw [List.getElem?_eq_getElem (by omega)]; exact List.getElem_mem _
      unfold anyB at h
      rw [List.any_eq_false] at h
      simpa using h _ hm
    have : ¬ (L[k]?.getD 0 < 0 ∨ 100 < L[k]?.getD 0) := of_decide_eq_false hg
    unfold totK
    omega
/-- what is wrong with weights -/
def wE (L : List Int) : Int := if L.length = 0 then 8 else if 12 < L.length then 2 else if anyB L = true then 3 else 0
/-- what Check answers -/
def qE (L : List Int) (need : Int) : Int := if wE L ≠ 0 then wE L else if need < 1 ∨ totK L L.length < need then 3 else if 2 * need ≤ totK L L.length then 4 else 0
def gBad1 : List CA → Option Value
  | [.val (.int .i64 x)] => some (.bool (wBad x))
  | _ => none
def gIndex : List CA → Option Value
  | [.rows _ len g, .val (.func (.func f) ⟨[]⟩ ⟨[]⟩)] => (match Nat.beq f 64 with | true => some (.int .i64 (fIx (wsOf len g) 0)) | false => none)
  | _ => none
def gContains : List CA → Option Value
  | [.rows _ len g, .val (.func (.func f) ⟨[]⟩ ⟨[]⟩)] => (match Nat.beq f 64 with | true => some (.bool (anyB (wsOf len g))) | false => none)
  | _ => none
def aTotal : List CA → Prop
  | [.rows _ len g] => len ≤ 12 ∧ anyB (wsOf len g) = false
  | _ => False
def gTotal : List CA → Option Value
  | [.rows _ len g] => some (.int .i64 (totK (wsOf len g) len))
  | _ => none
noncomputable def K6 : Kn := K5.addQ 64 (listC [vK] gBad1)
noncomputable def K7 : Kn := (K6.addQ 79 (listC [.one (.rows wtK), vK] gIndex)).addQ 65 (listA [.one (.rows wtK)] aTotal gTotal)
noncomputable def K8 : Kn := K7.addQ 63 (listC [.one (.rows wtK), vK] gContains)
noncomputable def K9 : Kn := (K8.addM 44 (inl K8 noL Try.f44)).addM 62 (inl K8 noL Try.f62)
noncomputable def K10 : Kn := K9.addM 43 (inl K9 noL Try.f43)
def gQCheck : List CA → Option Value
  | [.rows _ len g, .val (.int .i64 need)] => some (.int .i64 (qE (wsOf len g) need))
  | _ => none
def keepIx : AE → List Nat
  | .normal => [0, 1, 6, 7, 8]
  | .exit _ => []
  | .ret => [4]
def gIxL : List Value → List AObj → (AE → List Value → List AObj → Out) → Out
  | [.slice (some ⟨0, 0, some 0⟩) len0 c0, .func (.func f) ⟨[]⟩ ⟨[]⟩, .slice (some ⟨0, 0, some 0⟩) len c, .int .i64 n, .int .i64 i], [.recs sh m g], k => (match shEq sh wtK && Nat.beq f 64 with
    | true => .ask (len0 = m ∧ c0 = m ∧ len = m ∧ c = m ∧ n = m ∧ i = 0 ∧ m ≤ 140737488355328) (tst (anyB (wsOf m g)) (k .ret [.int .i64 (fIx (wsOf m g) 0)] [.recs sh m g]) (k (.exit 0) [] [.recs sh m g]))
    | false => .bad)
  | _, _, _ => .bad
def lIx : Nat → Option LCon := oneL 2 (lspec 19 keepIx 1 gIxL)
def keepTot : AE → List Nat
  | .normal => [3, 6, 7, 8]
  | .exit _ => [3]
  | .ret => []
def gTotL : List Value → List AObj → (AE → List Value → List AObj → Out) → Out
  | [.int .i64 z, .slice (some ⟨0, 0, some 0⟩) len c, .int .i64 n, .int .i64 i], [.recs sh m g], k => (match shEq sh wtK with
    | true => .ask (z = 0 ∧ len = m ∧ c = m ∧ n = m ∧ i = 0 ∧ m ≤ 12 ∧ anyB (wsOf m g) = false) (k (.exit 0) [.int .i64 (totK (wsOf m g) m)] [.recs sh m g])
    | false => .bad)
  | _, _, _ => .bad
def lTot : Nat → Option LCon := oneL 3 (lspec 17 keepTot 1 gTotL)
end Go.Proofs.Ytpkckgdpdnkbeaa
