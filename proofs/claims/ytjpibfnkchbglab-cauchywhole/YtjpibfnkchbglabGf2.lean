/- The plain mathematics of the document's own product: the whole product of two numbers below 256 as polynomials over two numbers, and then its rest by 285, bit by bit from the top: it is the product of the field. Nothing of the program is named here. -/
import Derived.Test.YtjpibfnkchbglabGf
namespace Go.Proofs.Ytjpibfnkchbglab.Gf
theorem xlc (a b c : Nat) : a ^^^ (b ^^^ c) = b ^^^ (a ^^^ c) := by rw [← Nat.xor_assoc, Nat.xor_comm a b, Nat.xor_assoc]
theorem xsame (a b : Nat) : a ^^^ (a ^^^ b) = b := by rw [← Nat.xor_assoc, Nat.xor_self, Nat.zero_xor]
/-- one row of the whole product, k places of it done, upon P -/
def inn (a b i : Nat) : Nat → Nat → Nat
  | 0, P => P
  | k + 1, P => if a.testBit i && b.testBit k then inn a b i k P ^^^ 2 ^ (i + k) else inn a b i k P
/-- the whole product, i rows of it done -/
def outp (a b : Nat) : Nat → Nat
  | 0 => 0
  | i + 1 => inn a b i 8 (outp a b i)
/-- the rest, j places of it done from place 14 on -/
def rd : Nat → Nat → Nat
  | 0, P => P
  | j + 1, P => if (rd j P).testBit (14 - j) then rd j P ^^^ (285 * 2 ^ (6 - j)) else rd j P
def mo (a b : Nat) : Nat := rd 7 (outp a b 8)
theorem inn_acc (a b i : Nat) : ∀ k P, inn a b i k P = P ^^^ inn a b i k 0
  | 0, P => by simp [inn]
  | k + 1, P => by
    unfold inn
    rw [inn_acc a b i k P]
    split
    · rw [Nat.xor_assoc]
    · rfl
theorem inn_addA (a c b i : Nat) : ∀ k, inn (a ^^^ c) b i k 0 = inn a b i k 0 ^^^ inn c b i k 0
  | 0 => by simp [inn]
  | k + 1 => by
    unfold inn
    rw [inn_addA a c b i k, Nat.testBit_xor]
    cases a.testBit i <;> cases c.testBit i <;> cases b.testBit k <;> simp [Nat.xor_comm, xlc, Nat.xor_assoc, xsame]
theorem inn_addB (a b d i : Nat) : ∀ k, inn a (b ^^^ d) i k 0 = inn a b i k 0 ^^^ inn a d i k 0
  | 0 => by simp [inn]
  | k + 1 => by
    unfold inn
    rw [inn_addB a b d i k, Nat.testBit_xor]
    cases a.testBit i <;> cases b.testBit k <;> cases d.testBit k <;> simp [Nat.xor_comm, xlc, Nat.xor_assoc, xsame]
theorem outp_addA (a c b : Nat) : ∀ i, outp (a ^^^ c) b i = outp a b i ^^^ outp c b i
  | 0 => by simp [outp]
  | i + 1 => by
    unfold outp
    rw [inn_acc, inn_acc a, inn_acc c, outp_addA a c b i, inn_addA, xor_swap]
theorem outp_addB (a b d : Nat) : ∀ i, outp a (b ^^^ d) i = outp a b i ^^^ outp a d i
  | 0 => by simp [outp]
  | i + 1 => by
    unfold outp
    rw [inn_acc, inn_acc a b, inn_acc a d, outp_addB a b d i, inn_addB, xor_swap]
theorem rd_add (P Q : Nat) : ∀ j, rd j (P ^^^ Q) = rd j P ^^^ rd j Q
  | 0 => rfl
  | j + 1 => by
    unfold rd
    rw [rd_add P Q j, Nat.testBit_xor]
    cases (rd j P).testBit (14 - j) <;> cases (rd j Q).testBit (14 - j) <;> simp [Nat.xor_comm, xlc, Nat.xor_assoc, xsame]
theorem mo_addA (a c b : Nat) : mo (a ^^^ c) b = mo a b ^^^ mo c b := by unfold mo; rw [outp_addA, rd_add]
theorem mo_addB (a b d : Nat) : mo a (b ^^^ d) = mo a b ^^^ mo a d := by unfold mo; rw [outp_addB, rd_add]
theorem mo_chk : allLt 8 (fun i => allLt 8 (fun j => Nat.beq (mo (2 ^ i) (2 ^ j)) (gm (2 ^ i) (2 ^ j)))) = true := by decide +kernel
theorem mo_eq {a b : Nat} (ha : a < 256) (hb : b < 256) : mo a b = gm a b := by
  refine ext8 (f := fun b => mo a b) (g := fun b => gm a b) (fun x y _ _ => mo_addB a x y) (fun x y _ _ => gm_addR a x y) ?_ hb
  intro i hi
  refine ext8 (f := fun a => mo a (2 ^ i)) (g := fun a => gm a (2 ^ i)) (fun x y _ _ => mo_addA x y _) (fun x y hx hy => gm_addL hx hy) ?_ ha
  intro j hj
  exact Nat.eq_of_beq_eq_true (allLt_spec _ _ (allLt_spec _ _ mo_chk j hj) i hi)
theorem xlt15 {a b : Nat} (ha : a < 32768) (hb : b < 32768) : a ^^^ b < 32768 := Nat.xor_lt_two_pow (n := 15) ha hb
theorem inn_lt {a b i : Nat} (hi : i < 8) : ∀ k P, k ≤ 8 → P < 32768 → inn a b i k P < 32768
  | 0, P, _, hP => hP
  | k + 1, P, hk, hP => by
    unfold inn
    have h := inn_lt (a := a) (b := b) hi k P (by omega) hP
    split
    · exact xlt15 h (Nat.lt_of_lt_of_le (Nat.pow_lt_pow_right (by decide) (show i + k < 15 by omega)) (by decide))
    · exact h
theorem outp_lt {a b : Nat} : ∀ i, i ≤ 8 → outp a b i < 32768
  | 0, _ => by simp [outp]
  | i + 1, hi => inn_lt (by omega) 8 _ (by omega) (outp_lt i (by omega))
theorem rd_lt {P : Nat} (hP : P < 32768) : ∀ j, j ≤ 7 → rd j P < 32768
  | 0, _ => hP
  | j + 1, hj => by
    unfold rd
    have h := rd_lt hP j (by omega)
    split
    · refine xlt15 h ?_
      have : 2 ^ (6 - j) ≤ 2 ^ 6 := Nat.pow_le_pow_right (by decide) (by omega)
      omega
    · exact h
theorem mo_lt {a b : Nat} (ha : a < 256) (hb : b < 256) : rd 7 (outp a b 8) < 256 := by
  have := mo_eq ha hb
  unfold mo at this
  rw [this]
  exact gm_lt ha
end Go.Proofs.Ytjpibfnkchbglab.Gf
