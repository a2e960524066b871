/- CopiesOrder's run. -/
import Derived.Test.YtcplbpnpcmgjfaaVo
namespace Go.Proofs.Ytcplbpnpcmgjfaa
open Go.RowKit
def oB (b : Bool) : Out := .done .ret { slots := [some (.bool b)], heap := [] }
def oEnd (c a b : Cp) : Out := tst (soE (soV c a) b == 0) (tst (soE (soV c b) a == 0) (tst (soE (soV (soV c a) b) a == 0) (tst (decide (soV (soV c a) b = soV (soV c b) a)) (oB (decide (soV (soV (soV c a) b) a = soV (soV c a) b))) (oB false)) (oB false)) (oB false)) (oB false)
def o3 (c a b : Cp) : Out := tst (decide (c.1 = b.1)) (tst (!(c.2.toList == b.2.toList)) (oB true) (oEnd c a b)) (oEnd c a b)
def o2 (c a b : Cp) : Out := tst (decide (c.1 = a.1)) (tst (!(c.2.toList == a.2.toList)) (oB true) (o3 c a b)) (o3 c a b)
def o1 (c a b : Cp) : Out := tst (decide (a.1 = b.1)) (tst (!(a.2.toList == b.2.toList)) (oB true) (o2 c a b)) (o2 c a b)
def o0 (c a b : Cp) : Out := tst (soE c a != 0) (oB true) (tst (soE c b != 0) (oB true) (o1 c a b))
theorem run_order (a b : Int) (s : ByteArray) (p q : Int) (z : ByteArray) (x y : Int) (t : ByteArray) : evV K8s noL Try.f8 [.agg ⟨[.int .i64 a, .int .i64 b, .string s]⟩, .agg ⟨[.int .i64 p, .int .i64 q, .string z]⟩, .agg ⟨[.int .i64 x, .int .i64 y, .string t]⟩] [] = o0 ((a, b), s) ((p, q), z) ((x, y), t) := by kernel_rfl
theorem ne_toList {s t : ByteArray} (h : (!(s.toList == t.toList)) = false) : s = t := by
  have h : (s.toList == t.toList) = true := by simpa using h
  exact bal_inj.1 (eq_of_beq h)
theorem o0_sat (c a b : Cp) : (o0 c a b).sat fun _ S => S.slots = [some (.bool true)] := by
  unfold o0
  refine sat_tst (fun _ => rfl) (fun e1 => sat_tst (fun _ => rfl) (fun e2 => ?_))
  have e1 : soE c a = 0 := by simpa using e1
  have e2 : soE c b = 0 := by simpa using e2
  have s0 : (a.1 = b.1 → a.2 = b.2) → (c.1 = a.1 → c.2 = a.2) → (c.1 = b.1 → c.2 = b.2) → (oEnd c a b).sat fun _ S => S.slots = [some (.bool true)] := fun h1 h2 h3 => by
    obtain ⟨k1, k2, k3, k4, k5⟩ := store_order c a b e1 e2 h1 h2 h3
    unfold oEnd
    rw [k1, k2, k3, k4, k5]
    refine sat_tst (fun _ => sat_tst (fun _ => sat_tst (fun _ => sat_tst (fun _ => ?_) (fun h => ?_)) (fun h => by cases h)) (fun h => by cases h)) (fun h => by cases h)
    · show _ = _
      simp
    · simp at h
  have s3 : (a.1 = b.1 → a.2 = b.2) → (c.1 = a.1 → c.2 = a.2) → (o3 c a b).sat fun _ S => S.slots = [some (.bool true)] := fun h1 h2 =>
    sat_tst (fun _ => sat_tst (fun _ => rfl) (fun h => s0 h1 h2 fun _ => ne_toList h)) (fun h => s0 h1 h2 fun e => absurd e (of_decide_eq_false h))
  have s2 : (a.1 = b.1 → a.2 = b.2) → (o2 c a b).sat fun _ S => S.slots = [some (.bool true)] := fun h1 =>
    sat_tst (fun _ => sat_tst (fun _ => rfl) (fun h => s3 h1 fun _ => ne_toList h)) (fun h => s3 h1 fun e => absurd e (of_decide_eq_false h))
  exact sat_tst (fun _ => sat_tst (fun _ => rfl) (fun h => s2 fun _ => ne_toList h)) (fun h => s2 fun e => absurd e (of_decide_eq_false h))
end Go.Proofs.Ytcplbpnpcmgjfaa
