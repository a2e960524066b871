/- What becomes of a bid by a vote, by the reference: the run. -/
import Derived.Test.YtbmbnbhedalcnabQc
namespace Go.Proofs.Ytbmbnbhedalcnab
open Go.RowKit
structure BR where
  a : Int
  p : Int
  o : ByteArray
  v : ByteArray
  t : Int
  w : Int
  s : ByteArray
  hd : Int
  n8 : Nat
  g8 : Nat → List Value
  e : Int
section
variable (R : BR) (m : Nat) (g : Nat → List Value) (need no a p : Int) (o v : ByteArray) (t w : Int) (s : ByteArray) (hd k bd n x y : Int) (z : ByteArray)
abbrev sumB : Int := IntKind.wrap .u64 (hd + shlV .u64 1 n)
def leafB (a p : Int) (o v : ByteArray) (t w : Int) (s : ByteArray) (hd : Int) (rows : Out → Out) (e : Int) : Out :=
  .ask ((.int .i64 a : Value) = .int .i64 R.a) (.ask ((.int .i64 p : Value) = .int .i64 R.p) (.ask ((.string o : Value) = .string R.o) (.ask ((.string v : Value) = .string R.v) (.ask ((.int .i64 t : Value) = .int .i64 R.t) (.ask ((.int .i64 w : Value) = .int .i64 R.w) (.ask ((.string s : Value) = .string R.s) (.ask ((.int .u64 hd : Value) = .int .u64 R.hd)
    (rows (.ask ((.int .i64 e : Value) = .int .i64 R.e) (.done .ret ⟨[], []⟩))))))))))
def noB (o : Out) : Out := .ask (R.n8 = 0) o
def manyB (m : Nat) (G : Nat → List Value) (o : Out) : Out := .ask (m = R.n8 ∧ m ≤ m ∧ ∀ j, j < R.n8 → norm vtK (G j) = norm vtK (R.g8 j)) o
def errB (e : Int) : Out := leafB R 0 0 ⟨#[]⟩ ⟨#[]⟩ 0 0 ⟨#[]⟩ 0 (noB R) e
def sameB : Out := leafB R a p o v t w s hd (noB R) 0
def putB (t' w' : Int) (s' val : ByteArray) : Out := .ask (1 ≤ (m : Int) ∧ (m : Int) ≤ 12) (leafB R a 2 o val t' w' s' 0 (manyB R m (vG 3 no a no val)) 0)
def tailB (t' w' : Int) (s' : ByteArray) : Out :=
  .ask (m ≤ m ∧ m ≤ 140737488355328) (.ask (m ≤ 12 ∧ anyB (wsOf m g) = false) (tst (decide (smI (wsOf m g) (sumB hd n) m < need)) (leafB R a p o v t' w' s' (sumB hd n) (noB R) 0) (tst (p == 2) (leafB R a 3 o v t' w' s' (sumB hd n) (noB R) 0)
    (tst (bif false then decide (t' = 0 ∧ w' = 0) else !decide (t' = 0 ∧ w' = 0)) (putB R m no a o t' w' s' s') (putB R m no a o t' w' s' o)))))
def heardB : Out := tst (decide (n ≥ (m : Int))) (sameB R a p o v t w s hd) (.ask (0 ≤ n) (tst (x_inset hd n) (sameB R a p o v t w s hd) (.ask (0 ≤ n) (tst (p == 1)
    (.ask (2 ≤ 2 ∧ 2 ≤ 140737488355328) (.ask (0 < 2) (tailB R m g need no a p o v hd n (mgV [((t, w), s), ((x, y), z)]).1.1 (mgV [((t, w), s), ((x, y), z)]).1.2 (mgV [((t, w), s), ((x, y), z)]).2)))
    (tailB R m g need no a p o v hd n t w s)))))
def go1B : Out := tst (bd != no) (sameB R a p o v t w s hd) (heardB R m g need no a p o v t w s hd n x y z)
def go2B : Out := tst (bd != no) (sameB R a p o v t w s hd) (tst (!bif true then decide (x = a ∧ y = no) else !decide (x = a ∧ y = no)) (sameB R a p o v t w s hd) (heardB R m g need no a p o v t w s hd n x y z))
def offB : Out := tst (bd != no) (sameB R a p o v t w s hd) (sameB R a p o v t w s hd)
def fourB : Out := tst (p == 2) (tst (k == 4) (go2B R m g need no a p o v t w s hd bd n x y z) (offB R no a p o v t w s hd bd)) (offB R no a p o v t w s hd bd)
def restB : Out := tst (p == 1) (tst (k == 2) (go1B R m g need no a p o v t w s hd bd n x y z) (fourB R m g need no a p o v t w s hd k bd n x y z)) (fourB R m g need no a p o v t w s hd k bd n x y z)
theorem run_rbhear : evR K34 noL Try.f16 [.agg ⟨[.slice (some ⟨0, 0, some 0⟩) m m, .int .i64 need]⟩, .int .i64 no, .agg ⟨[.int .i64 a, .int .i64 p, .string o, .string v, .int .i64 t, .int .i64 w, .string s, .int .u64 hd]⟩, .agg ⟨[.int .i64 k, .int .i64 bd, .int .i64 n, .int .i64 x, .int .i64 y, .string z]⟩] [.recs wtK m g] [.agg [.val, .val, .val, .val, .val, .val, .val, .val], .one .val, .one .val] [.val (.int .i64 R.a), .val (.int .i64 R.p), .val (.string R.o), .val (.string R.v), .val (.int .i64 R.t), .val (.int .i64 R.w), .val (.string R.s), .val (.int .u64 R.hd), .rows 29 vtK R.n8 R.g8, .val (.int .i64 R.e)] =
    tst (decide (no < 0)) (errB R 3) (tst (decide (no > 30)) (errB R 3) (.ask (m ≤ m ∧ m ≤ 140737488355328) (tst (x_rcbid m g need a p o v t w s hd == 0) (tst (x_rcv k bd n x y z != 0) (errB R (x_rcv k bd n x y z)) (restB R m g need no a p o v t w s hd k bd n x y z)) (tst (x_rcbid m g need a p o v t w s hd != 0) (errB R (x_rcbid m g need a p o v t w s hd)) (restB R m g need no a p o v t w s hd k bd n x y z))))) := by kernel_rfl
end
end Go.Proofs.Ytbmbnbhedalcnab
