/- Words of thirteen bits, as plain numbers: what Write, Read, fault, odd and byteOf of package word reckon, and the laws of it, by the kernel over all bytes and words. -/
namespace Go.Proofs.YtiiickinlklelaaDoor.Wd
/-- p at 2^k places from b on -/
def allP (p : Nat → Bool) (k : Nat) : Nat → Bool := Nat.rec (fun b => p b) (fun j ih b => cond (ih b) (ih (Nat.add b (Nat.pow 2 j))) false) k
theorem allP_at {p : Nat → Bool} : ∀ {k b : Nat}, allP p k b = true → ∀ i, i < 2 ^ k → p (b + i) = true
  | 0, b, h, i, hi => by
    have : i = 0 := by simpa using hi
    subst this
    exact h
  | k + 1, b, h, i, hi => by
    have h : cond (allP p k b) (allP p k (b + 2 ^ k)) false = true := h
    cases c1 : allP p k b with
    | false => rw [c1] at h; cases h
    | true =>
      rw [c1] at h
      by_cases c : i < 2 ^ k
      · exact allP_at c1 i c
      · have := allP_at h (i - 2 ^ k) (by rw [Nat.pow_succ] at hi; omega)
        rwa [show b + 2 ^ k + (i - 2 ^ k) = b + i by omega] at this
theorem all_lt {p : Nat → Bool} {k : Nat} (h : allP p k 0 = true) {i : Nat} (hi : i < 2 ^ k) : p i = true := by
  have := allP_at h i hi
  rwa [Nat.zero_add] at this
/-- the places of the table by which the lowest bit is found -/
def tb (i : Nat) : Nat := Nat.mod (Nat.div 4088518913827626597285369242834745541130067489702375943734699084159095931136 (Nat.pow 256 i)) 256
/-- the place of the lowest bit that is 1 -/
def tz (r : Nat) : Nat := tb (Nat.div (Nat.mod (Nat.mul (Nat.land r (Nat.sub 65536 r)) 125613361) 4294967296) 134217728)
/-- the places of a byte's bits in a word -/
def pl (i : Nat) : Nat := Nat.mod (Nat.div 3416880723 (Nat.pow 16 i)) 16
/-- how many bits of a byte are 1 -/
def pp (i : Nat) : Nat := Nat.mod (Nat.div 95125173855764218123276304889944061997689682402263585766959741291920687686033329201817409157123347502415384089435969498586180241031507595463600295898153685276653211633572815512294064538494957912327413386667662218713394765509704508661031522276467630197481635010039778342554499416459730172574551513689147646224 (Nat.pow 16 i)) 16
/-- g folded over the places of the bits of r that are 1, the lowest one first -/
def og (g : Nat → Nat → Nat) (f : Nat) : Nat → Nat → Nat := Nat.rec (fun _ a => a) (fun _ ih r a => cond (Nat.beq r 0) a (ih (Nat.land r (Nat.sub r 1)) (g a (tz r)))) f
def ft (w : Nat) : Nat := og Nat.xor w w 0
def od (w : Nat) : Bool := Nat.beq (Nat.mod (Nat.add (pp (Nat.div w 256)) (pp (Nat.mod w 256))) 2) 1
def g1 (w i : Nat) : Nat := Nat.lor w (Nat.pow 2 (pl i))
def g2 (w n : Nat) : Nat := Nat.lor w (Nat.pow 2 (Nat.pow 2 n))
def w1 (b : Nat) : Nat := og g1 b b 0
def w2 (f w : Nat) : Nat := og g2 f f w
def wm (b : Nat) : Nat := w2 (ft (w1 b)) (w1 b)
def wp (m : Nat) : Nat := cond (od m) (Nat.lor m 1) m
def wr (b : Nat) : Nat := wp (wm b)
/-- the first k bits of a word's byte -/
def bo (w k : Nat) : Nat := Nat.rec 0 (fun k b => Nat.lor b (Nat.mul (Nat.mod (Nat.div w (Nat.pow 2 (pl k))) 2) (Nat.pow 2 k))) k
def rb1 (w f : Nat) : Nat := cond (od w) (cond (Nat.ble 13 f) 0 (bo (Nat.xor w (Nat.pow 2 f)) 8)) (cond (Nat.beq f 0) (bo w 8) 0)
/-- what is mended, and one more -/
def rn1 (w f : Nat) : Nat := cond (od w) (cond (Nat.ble 13 f) 0 2) (cond (Nat.beq f 0) 1 0)
def rb (w : Nat) : Nat := cond (Nat.ble 8192 w) 0 (rb1 w (ft w))
def rn (w : Nat) : Nat := cond (Nat.ble 8192 w) 0 (rn1 w (ft w))
/-- how many of the first k bits are 1 -/
def cnt (x k : Nat) : Nat := Nat.rec 0 (fun k n => Nat.add n (Nat.mod (Nat.div x (Nat.pow 2 k)) 2)) k
end Go.Proofs.YtiiickinlklelaaDoor.Wd
