/- What becomes of an operation by a message, by the reference: the run. -/
import Derived.Test.YtbmbnbhedalcnaaOb
import Derived.Test.YtbmbnbhedalcnaaMj
namespace Go.Proofs.Ytbmbnbhedalcnaa
open Go.RowKit
section
variable (R : HR) (m : Nat) (g : Nat → List Value) (need op k p : Int) (d : ByteArray) (t w : Int) (s : ByteArray) (hd mk mo n x y : Int) (z : ByteArray)
def rx0 (t w op : Int) : Int := x0_rnx (litR [[.int .i64 t, .int .i64 w]]) op
def rx1 (t w op : Int) : Int := x1_rnx (litR [[.int .i64 t, .int .i64 w]]) op
def rx2 (t w op : Int) : Int := x2_rnx (litR [[.int .i64 t, .int .i64 w]]) op
abbrev sumN : Int := IntKind.wrap .u64 (hd + shlV .u64 1 n)
def leafR (op k p : Int) (d : ByteArray) (t w : Int) (s : ByteArray) (hd : Int) (rows : Out → Out) (e : Int) : Out :=
  .ask ((.int .i64 op : Value) = .int .i64 R.op) (.ask ((.int .i64 k : Value) = .int .i64 R.k) (.ask ((.int .i64 p : Value) = .int .i64 R.p) (.ask ((.string d : Value) = .string R.d) (.ask ((.int .i64 t : Value) = .int .i64 R.t) (.ask ((.int .i64 w : Value) = .int .i64 R.w) (.ask ((.string s : Value) = .string R.s) (.ask ((.int .u64 hd : Value) = .int .u64 R.hd)
    (rows (.ask ((.int .i64 e : Value) = .int .i64 R.e) (.done .ret ⟨[], []⟩))))))))))
def noR (o : Out) : Out := .ask (R.n8 = 0) o
def manyR (m : Nat) (G : Nat → List Value) (o : Out) : Out := .ask (m = R.n8 ∧ m ≤ m ∧ ∀ j, j < R.n8 → norm msK (G j) = norm msK (R.g8 j)) o
def errR (e : Int) : Out := leafR R 0 0 0 ⟨#[]⟩ 0 0 ⟨#[]⟩ 0 (noR R) e
def sameR : Out := leafR R op k p d t w s hd (noR R) 0
def tailR (t' w' : Int) (s' : ByteArray) : Out :=
  .ask (m ≤ m ∧ m ≤ 140737488355328) (.ask (m ≤ 12 ∧ anyB (wsOf m g) = false) (tst (decide (smI (wsOf m g) (sumN hd n) m < need)) (leafR R op k p d t' w' s' (sumN hd n) (noR R) 0) (tst (p == 2) (leafR R op k 3 d t' w' s' (sumN hd n) (noR R) 0)
    (tst (k == 2) (.ask (1 ≤ 1 ∧ 1 ≤ 140737488355328) (.ask (1 = 1) (tst (rx2 t' w' op != 0) (sameR R op k p d t w s hd) (.ask (1 ≤ (m : Int) ∧ (m : Int) ≤ 12) (leafR R op k 2 d (rx0 t' w' op) (rx1 t' w' op) d 0 (manyR R m (toC 3 op (rx0 t' w' op) (rx1 t' w' op) d)) 0)))))
      (.ask (1 ≤ (m : Int) ∧ (m : Int) ≤ 12) (leafR R op k 2 d t' w' s' 0 (manyR R m (toC 3 op t' w' s')) 0))))))
def goR : Out :=
  tst (mo != op) (sameR R op k p d t w s hd) (tst (decide (n ≥ (m : Int))) (sameR R op k p d t w s hd) (.ask (0 ≤ n) (tst (x_inset hd n) (sameR R op k p d t w s hd) (.ask (0 ≤ n) (tst (p == 1)
    (.ask (2 ≤ 2 ∧ 2 ≤ 140737488355328) (.ask (0 < 2) (tailR R m g need op k p d t w s hd n (mgV [((t, w), s), ((x, y), z)]).1.1 (mgV [((t, w), s), ((x, y), z)]).1.2 (mgV [((t, w), s), ((x, y), z)]).2)))
    (tailR R m g need op k p d t w s hd n t w s))))))
def restR : Out := tst (p == 1) (tst (mk == 2) (goR R m g need op k p d t w s hd mo n x y z) (tst (p == 2) (tst (!mk == 4) (sameR R op k p d t w s hd) (goR R m g need op k p d t w s hd mo n x y z)) (sameR R op k p d t w s hd)))
  (tst (p == 2) (tst (!mk == 4) (sameR R op k p d t w s hd) (goR R m g need op k p d t w s hd mo n x y z)) (sameR R op k p d t w s hd))
theorem run_rhear : evR K36 noL Try.f14 [.agg ⟨[.slice (some ⟨0, 0, some 0⟩) m m, .int .i64 need]⟩, .agg ⟨[.int .i64 op, .int .i64 k, .int .i64 p, .string d, .int .i64 t, .int .i64 w, .string s, .int .u64 hd]⟩, .agg ⟨[.int .i64 mk, .int .i64 mo, .int .i64 n, .int .i64 x, .int .i64 y, .string z]⟩] [.recs wtK m g] [.agg [.val, .val, .val, .val, .val, .val, .val, .val], .one .val, .one .val] [.val (.int .i64 R.op), .val (.int .i64 R.k), .val (.int .i64 R.p), .val (.string R.d), .val (.int .i64 R.t), .val (.int .i64 R.w), .val (.string R.s), .val (.int .u64 R.hd), .rows 40 msK R.n8 R.g8, .val (.int .i64 R.e)] =
    .ask (m ≤ m ∧ m ≤ 140737488355328) (tst (x_rack m g need op k p d t w s hd == 0) (tst (x_rmchk mk mo n x y z != 0) (errR R (x_rmchk mk mo n x y z)) (restR R m g need op k p d t w s hd mk mo n x y z)) (tst (x_rack m g need op k p d t w s hd != 0) (errR R (x_rack m g need op k p d t w s hd)) (restR R m g need op k p d t w s hd mk mo n x y z))) := by kernel_rfl
end
end Go.Proofs.Ytbmbnbhedalcnaa
