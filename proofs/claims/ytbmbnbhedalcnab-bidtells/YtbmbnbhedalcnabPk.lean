/- What becomes of a bid by a vote: the whole answer as a function. -/
import Derived.Test.YtbmbnbhedalcnabPj
namespace Go.Proofs.Ytbmbnbhedalcnab
open Go.RowKit
abbrev zS : ByteArray := { data := { toList := [] } }
abbrev nil8 : Nat → List Value := fun _ => []
def bR (m : Nat) (g : Nat → List Value) (need no a p : Int) (o v : ByteArray) (t w : Int) (s : ByteArray) (hd k bd n x y : Int) (z : ByteArray) : BR :=
  ⟨x0_hear m g need no a p o v t w s hd k bd n x y z, x1_hear m g need no a p o v t w s hd k bd n x y z, x2_hear m g need no a p o v t w s hd k bd n x y z, x3_hear m g need no a p o v t w s hd k bd n x y z, x4_hear m g need no a p o v t w s hd k bd n x y z, x5_hear m g need no a p o v t w s hd k bd n x y z, x6_hear m g need no a p o v t w s hd k bd n x y z, x7_hear m g need no a p o v t w s hd k bd n x y z, n8_hear m g need no a p o v t w s hd k bd n x y z, g8_hear m g need no a p o v t w s hd k bd n x y z, x9_hear m g need no a p o v t w s hd k bd n x y z⟩
/-- the best of a bid and a vote -/
def bst (p t w : Int) (s : ByteArray) (x y : Int) (z : ByteArray) : Cp := bif p == 1 then mgV [((t, w), s), ((x, y), z)] else ((t, w), s)
def bV (m : Nat) (g : Nat → List Value) (need no a p : Int) (o v : ByteArray) (t w : Int) (s : ByteArray) (hd k bd n x y : Int) (z : ByteArray) : BR :=
  bif x_bchk a p o v t w s hd m g need no != 0 then ⟨0, 0, zS, zS, 0, 0, zS, 0, 0, nil8, x_bchk a p o v t w s hd m g need no⟩ else
  bif x_cvote k bd n x y z != 0 then ⟨0, 0, zS, zS, 0, 0, zS, 0, 0, nil8, x_cvote k bd n x y z⟩ else
  bif !x_wait a p hd m no k bd n x y then ⟨a, p, o, v, t, w, s, hd, 0, nil8, 0⟩ else
  bif !x0_enough m g need (heardN hd n) then ⟨a, p, o, v, (bst p t w s x y z).1.1, (bst p t w s x y z).1.2, (bst p t w s x y z).2, heardN hd n, 0, nil8, 0⟩ else
  bif p == 2 then ⟨a, 3, o, v, (bst p t w s x y z).1.1, (bst p t w s x y z).1.2, (bst p t w s x y z).2, heardN hd n, 0, nil8, 0⟩ else
  ⟨a, 2, o, x_choice o (bst p t w s x y z).1.1 (bst p t w s x y z).1.2 (bst p t w s x y z).2, (bst p t w s x y z).1.1, (bst p t w s x y z).1.2, (bst p t w s x y z).2, 0, m, toC 3 a no (x_choice o (bst p t w s x y z).1.1 (bst p t w s x y z).1.2 (bst p t w s x y z).2), 0⟩
theorem bR_eq {m : Nat} {g : Nat → List Value} {need no a p : Int} {o v : ByteArray} {t w : Int} {s : ByteArray} {hd k bd n x y : Int} {z : ByteArray} : bR m g need no a p o v t w s hd k bd n x y z = bV m g need no a p o v t w s hd k bd n x y z := by
  have eta : (fun j => g j) = g := rfl
  unfold bR bV bst
  simp only [x0_hear, x1_hear, x2_hear, x3_hear, x4_hear, x5_hear, x6_hear, x7_hear, n8_hear, g8_hear, x9_hear, eta]
  cases x_bchk a p o v t w s hd m g need no != 0
  · cases x_cvote k bd n x y z != 0
    · cases x_wait a p hd m no k bd n x y
      · rfl
      · cases h3 : (p == 1)
        · cases x0_enough m g need (heardN hd n)
          · rfl
          · cases p == 2 <;> rfl
        · cases x0_enough m g need (heardN hd n)
          · rfl
          · cases p == 2 <;> rfl
    · rfl
  · rfl
end Go.Proofs.Ytbmbnbhedalcnab
