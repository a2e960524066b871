/- The reference's words, as plain numbers: which are right, which byte and which word, and that these are the program's. -/
import Derived.Test.YtiiickinlklelaaDoorWd
namespace Go.Proofs.YtiiickinlklelaaDoor.Wd
/-- bit i -/
def bt (w i : Nat) : Nat := Nat.mod (Nat.div w (Nat.pow 2 i)) 2
/-- how many of the first k bits are 1 -/
def s1 (w k : Nat) : Nat := Nat.rec 0 (fun k n => Nat.add n (bt w k)) k
/-- of the places 1 to j those with n in them -/
def sq (w n j : Nat) : Nat := Nat.rec 0 (fun j s => cond (Nat.beq (Nat.mod (Nat.div (Nat.add j 1) n) 2) 1) (Nat.add s (bt w (Nat.add j 1))) s) j
def rgn (w m : Nat) : Bool := Nat.rec true (fun m b => cond b (cond (Nat.beq (Nat.mod (sq w (Nat.pow 2 m) 12) 2) 1) false true) false) m
def rg (w : Nat) : Bool := cond (rgn w 4) (cond (Nat.beq (Nat.mod (s1 w 13) 2) 0) (Nat.ble (Nat.add w 1) 8192) false) false
/-- the byte of a word, from its highest bit on -/
def rv (w k : Nat) : Nat := Nat.rec 0 (fun k n => Nat.add (Nat.mul 2 n) (bt w (pl (Nat.sub 7 k)))) k
/-- the bits of a byte in a word, the first k of them -/
def bs (b k : Nat) : Nat := Nat.rec 0 (fun k n => Nat.add n (Nat.mul (bt b k) (Nat.pow 2 (pl k)))) k
/-- the places of the parities -/
def pq (i : Nat) : Nat := Nat.mod (Nat.div 541200 (Nat.pow 16 i)) 16
def wt (B t k : Nat) : Nat := Nat.rec B (fun k n => Nat.add n (Nat.mul (bt t k) (Nat.pow 2 (pq k)))) k
/-- the first that is right of f words from t on -/
def wf (B f : Nat) : Nat → Nat := Nat.rec (fun _ => 0) (fun _ ih t => cond (rg (wt B t 5)) (wt B t 5) (ih (Nat.add t 1))) f
set_option maxRecDepth 100000
theorem pq_chk : pq 0 = 0 ∧ pq 1 = 1 ∧ pq 2 = 2 ∧ pq 3 = 4 ∧ pq 4 = 8 := by decide +kernel
theorem rg_chk : allP (fun w => cond (od w) (cond (rg w) false true) (cond (Nat.beq (ft w) 0) (rg w) (cond (rg w) false true))) 13 0 = true := by decide +kernel
theorem rv_chk : allP (fun w => Nat.beq (rv w 8) (bo w 8)) 13 0 = true := by decide +kernel
theorem wf_chk : allP (fun b => Nat.beq (wf (bs b 8) 32 0) (wr b)) 8 0 = true := by decide +kernel
theorem wt_chk : allP (fun b => allP (fun t => Nat.ble (wt (bs b 8) t 5) 8191) 5 0) 8 0 = true := by decide +kernel
theorem lin_chk : allP (fun w => allP (fun i => cond (Nat.ble 13 i) true (cond (Nat.beq (ft (Nat.xor w (Nat.pow 2 i))) (Nat.xor (ft w) i)) (cond (od w) (cond (od (Nat.xor w (Nat.pow 2 i))) false true) (od (Nat.xor w (Nat.pow 2 i)))) false)) 4 0) 13 0 = true := by decide +kernel
end Go.Proofs.YtiiickinlklelaaDoor.Wd
