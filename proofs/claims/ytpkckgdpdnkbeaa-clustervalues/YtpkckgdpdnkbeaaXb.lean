/- What stamps, copies and majorities answer: what is to be shown. -/
import Derived.Test.YtpkckgdpdnkbeaaXa
namespace Go.Proofs.Ytpkckgdpdnkbeaa
open Go.RowKit
theorem mixed : Try.prog.follows Departure.mixedOrders = true := by kernel_rfl
noncomputable def K0 : Kn := Kn.start Try.prog
theorem K0_ok : K0.Ok := Kn.start_ok mixed
theorem ret_i {a b : Int} (h : a = b) : [some (Value.int .i64 a)] = [some (Value.int .i64 b)] := by rw [h]
theorem ne_of_bne {a b : Int} (h : (a != b) = true) : a ≠ b := by simpa using h
theorem eq_of_bne {a b : Int} (h : (a != b) = false) : a = b := by simpa using h
def gSCheck : List CA → Option Value
  | [.val (.agg ⟨[.int .i64 t, .int .i64 u]⟩)] => some (.int .i64 (sck (t, u)))
  | _ => none
def gSLess : List CA → Option Value
  | [.val (.agg ⟨[.int .i64 t, .int .i64 u]⟩), .val (.agg ⟨[.int .i64 x, .int .i64 y]⟩)] => some (.bool (slt (t, u) (x, y)))
  | _ => none
abbrev vK : CK := .one .val
noncomputable def K1 : Kn := (K0.addQ 74 (listC [vK] gSCheck)).addQ 20 (listC [vK, vK] gSLess)
/-- a copy's cells -/
abbrev cpK : List LK := [.kInt .i64, .kInt .i64, .kStr]
def cpOf (vs : List Value) : Cp := ((intV (hdV vs), intV (hdV (tlV vs))), strV (hdV (tlV (tlV vs))))
def cvL (c : Cp) : Value := .agg ⟨[.int .i64 c.1.1, .int .i64 c.1.2, .string c.2]⟩
def cpsOf (len : Nat) (g : Nat → List Value) : List Cp := (List.range len).map fun j => cpOf (g j)
def gCCheck : List CA → Option Value
  | [.val (.agg ⟨[.int .i64 t, .int .i64 u, .string s]⟩)] => some (.int .i64 (cck ((t, u), s)))
  | _ => none
def gCchecks : List CA → Option Value
  | [.rows _ len g] => some (.int .i64 (cks (cpsOf len g)))
  | _ => none
def gClist : List CA → Option Value
  | [.rows _ len g] => some (.int .i64 (clE (cpsOf len g)))
  | _ => none
def gLater : List CA → Option Value
  | [.val (.agg ⟨[.int .i64 t, .int .i64 u, .string s]⟩), .val (.agg ⟨[.int .i64 t', .int .i64 u', .string s']⟩)] => some (cvL (ltr ((t, u), s) ((t', u'), s')))
  | _ => none
def gLatest : List CA → Option Value
  | [.rows _ len g] => some (cvL (lats (cpsOf len g)))
  | _ => none
def gMerge : List CA → Option Value
  | [.rows _ len g] => some (.tuple ⟨[cvL (mgV (cpsOf len g)), .int .i64 (clE (cpsOf len g))]⟩)
  | _ => none
noncomputable def K2 : Kn := K1.addQ 56 (listC [vK] gCCheck)
noncomputable def K3 : Kn := (K2.addQ 94 (listC [.one (.rows cpK)] gCchecks)).addQ 95 (listC [vK, vK] gLater)
noncomputable def K4 : Kn := (K3.addQ 99 (listC [.one (.rows cpK)] gClist)).addQ 100 (listC [.one (.rows cpK)] gLatest)
noncomputable def K5 : Kn := K4.addQ 97 (listC [.one (.rows cpK)] gMerge)
theorem cps_len (len : Nat) (g : Nat → List Value) : (cpsOf len g).length = len := by simp [cpsOf]
theorem cps_at {len j : Nat} (g : Nat → List Value) (h : j < len) : (cpsOf len g)[j]?.getD cz = cpOf (g j) := by simp [cpsOf, h]
theorem wrap_at {k n : Nat} (h : k < n) (hn : n ≤ 140737488355328) : IntKind.wrap IntKind.i64 ((k : Int) + 1) = ((k + 1 : Nat) : Int) := by
  have h2 : ((k + 1 : Nat) : Int) = (k : Int) + 1 := by omega
  rw [h2]
  rw [IntKind.wrap_i64]
  omega
def keepChecks : AE → List Nat
  | .normal => [6, 7, 8]
  | .exit _ => []
  | .ret => [2]
def gChecksL : List Value → List AObj → (AE → List Value → List AObj → Out) → Out
  | [.slice (some ⟨0, 0, some 0⟩) len c, .int .i64 n, .int .i64 i], [.recs sh m g], k => (match shEq sh cpK with
    | true => .ask (c = len ∧ n = len ∧ i = 0 ∧ m = len ∧ len ≤ 140737488355328) (tst (cks (cpsOf len g) != 0) (k .ret [.int .i64 (cks (cpsOf len g))] [.recs sh m g]) (k (.exit 0) [] [.recs sh m g]))
    | false => .bad)
  | _, _, _ => .bad
def lChecks : Nat → Option LCon := oneL 2 (lspec 18 keepChecks 1 gChecksL)
def keepLatest : AE → List Nat
  | .normal => [2, 3, 14, 15, 16]
  | .exit _ => [2, 3]
  | .ret => [2]
def gLatestL : List Value → List AObj → (AE → List Value → List AObj → Out) → Out
  | [.pointer (some ⟨1, 0, none⟩), .pointer (some ⟨2, 0, none⟩), .slice (some ⟨0, 0, some r⟩) len1 c, .int .i64 n, .int .i64 i], [.recs sh m g, .cells T1 [.int .i64 0, .int .i64 0, .string z], .cells T2 [.int .i64 a, .int .i64 b, .string s]], k => (match shEq sh cpK && Nat.beq r 1 with
    | true => .ask (c = len1 ∧ n = len1 ∧ i = 0 ∧ len1 = m - 1 ∧ 0 < m ∧ m ≤ 140737488355328 ∧ ((a, b), s) = cpOf (g 0))
        (k (.exit 0) [.pointer (some ⟨1, 0, none⟩), .pointer (some ⟨2, 0, none⟩)] [.recs sh m g, .cells T1 [.int .i64 0, .int .i64 0, .string z], .cells T2 [.int .i64 (lats (cpsOf m g)).1.1, .int .i64 (lats (cpsOf m g)).1.2, .string (lats (cpsOf m g)).2]])
    | false => .bad)
  | _, _, _ => .bad
def lLatest : Nat → Option LCon := oneL 5 (lspec 25 keepLatest 3 gLatestL)
end Go.Proofs.Ytpkckgdpdnkbeaa
