/- The laws of words, by the kernel over all bytes and words. -/
import Derived.Test.YtiiickinlklelaaDoorWd
namespace Go.Proofs.YtiiickinlklelaaDoor.Wd
set_option maxRecDepth 100000
theorem back_chk : allP (fun b => Nat.beq (rb (wr b)) b && Nat.beq (rn (wr b)) 1 && Nat.ble (wr b) 8191) 8 0 = true := by decide +kernel
theorem one_chk : allP (fun b => allP (fun i => cond (Nat.ble 13 i) true (Nat.beq (rb (Nat.xor (wr b) (2 ^ i))) b && Nat.beq (rn (Nat.xor (wr b) (2 ^ i))) 2)) 4 0) 8 0 = true := by decide +kernel
theorem two_chk : allP (fun b => allP (fun i => cond (Nat.ble 13 i) true (allP (fun k => cond (Nat.ble 13 k) true (cond (Nat.beq i k) true (Nat.beq (rn (Nat.xor (Nat.xor (wr b) (2 ^ i)) (2 ^ k))) 0))) 4 0)) 4 0) 8 0 = true := by decide +kernel
theorem apart_chk : allP (fun a => allP (fun b => Nat.beq (Nat.xor (wr a) (wr b)) (wr (Nat.xor a b))) 8 0) 8 0 = true := by decide +kernel
theorem four_chk : allP (fun a => cond (Nat.beq a 0) (Nat.beq (wr a) 0) (Nat.ble 4 (cnt (wr a) 16))) 8 0 = true := by decide +kernel
theorem only_chk : allP (fun w => cond (Nat.beq (rn w) 0) (Nat.beq (rb w) 0) (Nat.ble (rb w) 255 && Nat.beq (cnt (Nat.xor (wr (rb w)) w) 16 + 1) (rn w))) 13 0 = true := by decide +kernel
end Go.Proofs.YtiiickinlklelaaDoor.Wd
