/- Leases and fences: what is to be shown. -/
import Derived.Test.YtehmikiejfbmeaaZw
namespace Go.Proofs.Ytehmikiejfbmeaa
open Go.RowKit
theorem mixed : Try.prog.follows Departure.mixedOrders = true := by kernel_rfl
noncomputable def K0 : Kn := Kn.start Try.prog
theorem K0_ok : K0.Ok := Kn.start_ok mixed
abbrev vK : CK := .one .val
theorem leaf_v {a b : Value} {H : List AObj} (h : b = a) : (Out.done .ret ⟨[some a], H⟩).sat fun _ S => S.slots = [some b] := by subst h; exact rfl
def gTrue : List CA → Option Value
  | [] => some (.bool true)
  | _ => none
theorem beq_t {a b : Int} (h : (a == b) = true) : a = b := by simpa using h
theorem beq_f {a b : Int} (h : (a == b) = false) : a ≠ b := by simpa using h
theorem bne_t {a b : Int} (h : (a != b) = true) : a ≠ b := by simpa using h
theorem bne_f {a b : Int} (h : (a != b) = false) : a = b := by simpa using h
theorem nt_t {a : Bool} (h : (!a) = true) : a = false := by simpa using h
theorem nt_f {a : Bool} (h : (!a) = false) : a = true := by simpa using h
theorem t_beq {a b : Int} (h : a = b) : (a == b) = true := by simpa using h
theorem t_bne {a b : Int} (h : a ≠ b) : (a != b) = true := by simpa using h
theorem bt {b : Bool} (h : b = true) : Value.bool true = Value.bool b := by rw [h]
end Go.Proofs.Ytehmikiejfbmeaa
