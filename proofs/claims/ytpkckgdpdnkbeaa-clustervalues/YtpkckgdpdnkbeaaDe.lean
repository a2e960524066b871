/- What becomes of a cluster by a step: the run. What becomes of a cluster by a step: contract. A step of a cluster: contract. -/
import Derived.Test.YtpkckgdpdnkbeaaDd
namespace Go.Proofs.Ytpkckgdpdnkbeaa
open Go.RowKit
/-- a cluster: its lists, and their lengths -/
structure CL where
  m : Nat
  w : Nat → List Value
  need : Int
  a : Nat
  nd : Nat → List Value
  b : Nat
  ak : Nat → List Value
  c : Nat
  tm : Nat → List Value
  d : Nat
  nt : Nat → List Value
  clk : Int
abbrev CL.arg (x : CL) : Value := .agg ⟨[.slice (some ⟨0, 0, some 0⟩) x.m x.m, .int .i64 x.need, .slice (some ⟨1, 0, some 0⟩) x.a x.a, .slice (some ⟨2, 0, some 0⟩) x.b x.b, .slice (some ⟨3, 0, some 0⟩) x.c x.c, .slice (some ⟨4, 0, some 0⟩) x.d x.d, .int .i64 x.clk]⟩
abbrev CL.heap (x : CL) : List AObj := [.recs wtK x.m x.w, .recs cpK x.a x.nd, .recs asK x.b x.ak, .recs tmK x.c x.tm, .recs msK x.d x.nt]
abbrev CL.rcs (x : CL) : List RC := clR x.m x.w x.need x.a x.nd x.b x.ak x.c x.tm x.d x.nt x.clk
abbrev CL.cas (x : CL) : List CA := [.rows wtK x.m x.w, .val (.int .i64 x.need), .rows cpK x.a x.nd, .rows asK x.b x.ak, .rows tmK x.c x.tm, .rows msK x.d x.nt, .val (.int .i64 x.clk)]
abbrev mKd (l : List Value) : Int := intV (hdV l)
abbrev mOp (l : List Value) : Int := intV (hdV (tlV l))
abbrev mNo (l : List Value) : Int := intV (hdV (tlV (tlV l)))
abbrev mTi (l : List Value) : Int := intV (hdV (tlV (tlV (tlV l))))
abbrev mWh (l : List Value) : Int := intV (hdV (tlV (tlV (tlV (tlV l)))))
abbrev mDa (l : List Value) : ByteArray := strV (hdV (tlV (tlV (tlV (tlV (tlV l))))))
abbrev pT (l : List Value) : Int := intV (hdV l)
abbrev pW (l : List Value) : Int := intV (hdV (tlV l))
abbrev pS (l : List Value) : ByteArray := strV (hdV (tlV (tlV l)))
abbrev q3 (l : List Value) : ByteArray := strV (hdV (tlV (tlV (tlV l))))
abbrev q4 (l : List Value) : Int := intV (hdV (tlV (tlV (tlV (tlV l)))))
abbrev q5 (l : List Value) : Int := intV (hdV (tlV (tlV (tlV (tlV (tlV l))))))
abbrev q6 (l : List Value) : ByteArray := strV (hdV (tlV (tlV (tlV (tlV (tlV (tlV l)))))))
abbrev q7 (l : List Value) : Int := intV (hdV (tlV (tlV (tlV (tlV (tlV (tlV (tlV l))))))))
/-- what a node has behind a message, and what it sends -/
def sC (p l : List Value) : List Value := [.int .i64 (x0_serve (pT p) (pW p) (pS p) (mKd l) (mOp l) (mNo l) (mTi l) (mWh l) (mDa l)), .int .i64 (x1_serve (pT p) (pW p) (pS p) (mKd l) (mOp l) (mNo l) (mTi l) (mWh l) (mDa l)), .string (x2_serve (pT p) (pW p) (pS p) (mKd l) (mOp l) (mNo l) (mTi l) (mWh l) (mDa l))]
def sN (p l : List Value) : Nat := n3_serve (pT p) (pW p) (pS p) (mKd l) (mOp l) (mNo l) (mTi l) (mWh l) (mDa l)
def sG (p l : List Value) : Nat → List Value := g3_serve (pT p) (pW p) (pS p) (mKd l) (mOp l) (mNo l) (mTi l) (mWh l) (mDa l)
/-- what becomes of an operation by a message, and what it sends -/
def hC (x : CL) (q l : List Value) : List Value := [.int .i64 (x0_hear x.m x.w x.need (mKd q) (mOp q) (mNo q) (q3 q) (q4 q) (q5 q) (q6 q) (q7 q) (mKd l) (mOp l) (mNo l) (mTi l) (mWh l) (mDa l)), .int .i64 (x1_hear x.m x.w x.need (mKd q) (mOp q) (mNo q) (q3 q) (q4 q) (q5 q) (q6 q) (q7 q) (mKd l) (mOp l) (mNo l) (mTi l) (mWh l) (mDa l)), .int .i64 (x2_hear x.m x.w x.need (mKd q) (mOp q) (mNo q) (q3 q) (q4 q) (q5 q) (q6 q) (q7 q) (mKd l) (mOp l) (mNo l) (mTi l) (mWh l) (mDa l)), .string (x3_hear x.m x.w x.need (mKd q) (mOp q) (mNo q) (q3 q) (q4 q) (q5 q) (q6 q) (q7 q) (mKd l) (mOp l) (mNo l) (mTi l) (mWh l) (mDa l)), .int .i64 (x4_hear x.m x.w x.need (mKd q) (mOp q) (mNo q) (q3 q) (q4 q) (q5 q) (q6 q) (q7 q) (mKd l) (mOp l) (mNo l) (mTi l) (mWh l) (mDa l)), .int .i64 (x5_hear x.m x.w x.need (mKd q) (mOp q) (mNo q) (q3 q) (q4 q) (q5 q) (q6 q) (q7 q) (mKd l) (mOp l) (mNo l) (mTi l) (mWh l) (mDa l)), .string (x6_hear x.m x.w x.need (mKd q) (mOp q) (mNo q) (q3 q) (q4 q) (q5 q) (q6 q) (q7 q) (mKd l) (mOp l) (mNo l) (mTi l) (mWh l) (mDa l)), .int .u64 (x7_hear x.m x.w x.need (mKd q) (mOp q) (mNo q) (q3 q) (q4 q) (q5 q) (q6 q) (q7 q) (mKd l) (mOp l) (mNo l) (mTi l) (mWh l) (mDa l))]
def hN (x : CL) (q l : List Value) : Nat := n8_hear x.m x.w x.need (mKd q) (mOp q) (mNo q) (q3 q) (q4 q) (q5 q) (q6 q) (q7 q) (mKd l) (mOp l) (mNo l) (mTi l) (mWh l) (mDa l)
def hG (x : CL) (q l : List Value) : Nat → List Value := g8_hear x.m x.w x.need (mKd q) (mOp q) (mNo q) (q3 q) (q4 q) (q5 q) (q6 q) (q7 q) (mKd l) (mOp l) (mNo l) (mTi l) (mWh l) (mDa l)
/-- an operation that begins, and what it sends -/
def bE (x : CL) (k : Int) (dt : ByteArray) : Int := x9_begin x.m x.w x.need (x.b : Int) k dt
def bC (x : CL) (k : Int) (dt : ByteArray) : List Value := [.int .i64 (x0_begin x.m x.w x.need (x.b : Int) k dt), .int .i64 (x1_begin x.m x.w x.need (x.b : Int) k dt), .int .i64 (x2_begin x.m x.w x.need (x.b : Int) k dt), .string (x3_begin x.m x.w x.need (x.b : Int) k dt), .int .i64 (x4_begin x.m x.w x.need (x.b : Int) k dt), .int .i64 (x5_begin x.m x.w x.need (x.b : Int) k dt), .string (x6_begin x.m x.w x.need (x.b : Int) k dt), .int .u64 (x7_begin x.m x.w x.need (x.b : Int) k dt)]
def bN (x : CL) (k : Int) (dt : ByteArray) : Nat := n8_begin x.m x.w x.need (x.b : Int) k dt
def bG (x : CL) (k : Int) (dt : ByteArray) : Nat → List Value := g8_begin x.m x.w x.need (x.b : Int) k dt
abbrev oneG (sz : Nat) (cs : List Value) : Nat → List Value := fun j => (nthL (chunk cs 0 sz 1) j).getD []
abbrev inc (i : Int) : Int := IntKind.wrap .i64 (i + 1)
def leafC (y R : CL) (E : Int) : Out :=
  .ask (y.m = R.m ∧ y.m ≤ y.m ∧ ∀ j, j < R.m → norm wtK (y.w j) = norm wtK (R.w j)) (.ask (Value.int .i64 y.need = .int .i64 R.need) (.ask (y.a = R.a ∧ y.a ≤ y.a ∧ ∀ j, j < R.a → norm cpK (y.nd j) = norm cpK (R.nd j)) (.ask (y.b = R.b ∧ y.b ≤ y.b ∧ ∀ j, j < R.b → norm asK (y.ak j) = norm asK (R.ak j)) (.ask (y.c = R.c ∧ y.c ≤ y.c ∧ ∀ j, j < R.c → norm tmK (y.tm j) = norm tmK (R.tm j)) (.ask (y.d = R.d ∧ y.d ≤ y.d ∧ ∀ j, j < R.d → norm msK (y.nt j) = norm msK (R.nt j)) (.ask (Value.int .i64 y.clk = .int .i64 R.clk) (.ask (Value.int .i64 0 = .int .i64 E) (.done .ret ⟨[], []⟩))))))))
def leafE (e : Int) (R : CL) (E : Int) : Out :=
  .ask (R.m = 0) (.ask (Value.int .i64 0 = .int .i64 R.need) (.ask (R.a = 0) (.ask (R.b = 0) (.ask (R.c = 0) (.ask (R.d = 0) (.ask (Value.int .i64 0 = .int .i64 R.clk) (.ask (Value.int .i64 e = .int .i64 E) (.done .ret ⟨[], []⟩))))))))
def sendO (y : CL) (k : Nat) (G : Nat → List Value) (R : CL) (E : Int) : Out :=
  tst (decide (IntKind.wrap .i64 ((y.d : Int) + (k : Int)) > 200)) (leafE 2 R E) (.ask (y.d ≤ y.d) (.ask (k + 0 ≤ k ∧ k ≤ 140737488355328) (.ask ((y.d + k) * 56 ≤ 140737488355328) (leafC { y with d := y.d + k, nt := joinG y.d y.nt G } R E))))
def begO (x : CL) (k : Int) (dt : ByteArray) (R : CL) (E : Int) : Out :=
  tst ((x.b : Int) == 31) (leafE 2 R E) (.ask (x.m ≤ x.m ∧ x.m ≤ 140737488355328) (tst (bE x k dt != 0) (tst (bE x k dt != 0) (leafE (bE x k dt) R E) (leafC { x with clk := inc x.clk } R E))
    (.ask (x.b ≤ x.b) (.ask (1 + 0 ≤ 1 ∧ 1 ≤ 140737488355328) (.ask ((x.b + 1) * 80 ≤ 140737488355328) (.ask (x.c ≤ x.c) (.ask (1 + 0 ≤ 1 ∧ 1 ≤ 140737488355328) (.ask ((x.c + 1) * 16 ≤ 140737488355328)
      (sendO { x with clk := inc x.clk, b := x.b + 1, ak := joinG x.b x.ak (oneG 8 (bC x k dt)), c := x.c + 1, tm := joinG x.c x.tm (oneG 2 [.int .i64 (inc x.clk), .int .i64 0]) } (bN x k dt) (bG x k dt) R E))))))))) 
def svO (y : CL) (l : List Value) (R : CL) (E : Int) : Out :=
  .ask (0 ≤ mNo l ∧ mNo l < (y.a : Int)) (.ask ((mNo l).toNat + 0 < y.a) (.ask (0 ≤ mNo l ∧ mNo l < (y.a : Int)) (.ask ((mNo l).toNat + 0 < y.a)
    (sendO { y with nd := updG y.nd (mNo l).toNat (sC (y.nd (mNo l).toNat) l) } (sN (y.nd (mNo l).toNat) l) (sG (y.nd (mNo l).toNat) l) R E))))
def heY (y : CL) (l : List Value) : CL := { y with ak := updG y.ak (mOp l).toNat (hC y (y.ak (mOp l).toNat) l) }
def heT (y : CL) (l : List Value) : CL := { heY y l with tm := updG y.tm (mOp l).toNat [.int .i64 (intV (hdV (y.tm (mOp l).toNat))), .int .i64 y.clk] }
def heO (y : CL) (l : List Value) (R : CL) (E : Int) : Out :=
  .ask (0 ≤ mOp l ∧ mOp l < (y.b : Int)) (.ask ((mOp l).toNat + 0 < y.b) (.ask (y.m ≤ y.m ∧ y.m ≤ 140737488355328) (.ask (0 ≤ mOp l ∧ mOp l < (y.b : Int)) (.ask ((mOp l).toNat + 0 < y.b) (.ask (0 ≤ mOp l ∧ mOp l < (y.b : Int)) (.ask ((mOp l).toNat + 0 < y.b)
    (tst (mNo ((heY y l).ak (mOp l).toNat) == 3) (.ask (0 ≤ mOp l ∧ mOp l < (y.c : Int)) (.ask ((mOp l).toNat + 0 < y.c) (tst (intV (hdV (tlV (y.tm (mOp l).toNat))) == 0) (.ask (0 ≤ mOp l ∧ mOp l < (y.c : Int)) (.ask ((mOp l).toNat + 0 < y.c)
      (sendO (heT y l) (hN y (y.ak (mOp l).toNat) l) (hG y (y.ak (mOp l).toNat) l) R E))) (sendO (heY y l) (hN y (y.ak (mOp l).toNat) l) (hG y (y.ak (mOp l).toNat) l) R E)))) (sendO (heY y l) (hN y (y.ak (mOp l).toNat) l) (hG y (y.ak (mOp l).toNat) l) R E))))))))
def nilO (y : CL) (R : CL) (E : Int) : Out :=
  tst (decide (IntKind.wrap .i64 ((y.d : Int) + ((0 : Nat) : Int)) > 200)) (leafE 2 R E) (.ask (y.d ≤ y.d) (.ask (y.d * 56 ≤ 140737488355328) (leafC { y with nt := joinG y.d y.nt fun _ => [] } R E)))
def brO (y : CL) (l : List Value) (R : CL) (E : Int) : Out :=
  tst (mKd l == 1) (svO y l R E) (tst (mKd l == 3) (svO y l R E) (tst (mKd l == 2) (heO y l R E) (tst (mKd l == 4) (heO y l R E) (nilO y R E))))
abbrev msV (l : List Value) : List Value := [.int .i64 (mKd l), .int .i64 (mOp l), .int .i64 (mNo l), .int .i64 (mTi l), .int .i64 (mWh l), .string (mDa l)]
def aftO (x : CL) (kd n : Int) (dt : ByteArray) (R : CL) (E : Int) : Out :=
  .ask (x.m ≤ x.m ∧ x.m ≤ 140737488355328) (.ask (x.a ≤ x.a ∧ x.a ≤ 140737488355328) (.ask (x.b ≤ x.b ∧ x.b ≤ 140737488355328) (.ask (x.c ≤ x.c ∧ x.c ≤ 140737488355328) (.ask (x.d ≤ x.d ∧ x.d ≤ 140737488355328) (.ask (aOwn x.cas)
    (tst (x.clk == 1000000) (leafE 2 R E) (tst (x_cstep kd n dt != 0) (tst (x_cstep kd n dt != 0) (leafE (x_cstep kd n dt) R E) (leafC x R E)) (tst (kd == 1) (begO x 1 ⟨#[]⟩ R E) (tst (kd == 2) (begO x 2 dt R E)
      (tst (decide (n < 0)) (leafE 3 R E) (tst (decide (n ≥ (x.d : Int))) (leafE 3 R E) (.ask (0 ≤ n ∧ n < (x.d : Int)) (.ask (n.toNat + 0 < x.d) (tst (kd == 5) (sendO { x with clk := inc x.clk } 1 (oneG 6 (msV (x.nt n.toNat))) R E)
        (.ask (x.d = x.d ∧ 0 ≤ n ∧ n < (x.d : Int) ∧ IntKind.wrap .i64 (n + 1) = n + 1) (tst (kd == 4) (leafC { x with clk := inc x.clk, d := x.d - 1, nt := delG n.toNat x.nt } R E)
          (brO { x with clk := inc x.clk, d := x.d - 1, nt := delG n.toNat x.nt } (x.nt n.toNat) R E)))))))))))))))))
set_option maxRecDepth 100000 in
theorem run_after (x : CL) (kd n : Int) (dt : ByteArray) (R : CL) (E : Int) : evR K35 noL Try.f24 [x.arg, .agg ⟨[.int .i64 kd, .int .i64 n, .string dt]⟩] x.heap [CLK, .one .val] (R.rcs ++ [.val (.int .i64 E)]) = aftO x kd n dt R E := by kernel_rfl
/-- no cluster -/
def zC : CL := ⟨0, fun _ => [], 0, 0, fun _ => [], 0, fun _ => [], 0, fun _ => [], 0, fun _ => [], 0⟩
def much (y : CL) (k : Nat) : Bool := decide (IntKind.wrap .i64 ((y.d : Int) + (k : Int)) > 200)
def sendE (y : CL) (k : Nat) : Int := bif much y k then 2 else 0
def sendC (y : CL) (k : Nat) (G : Nat → List Value) : CL := bif much y k then zC else { y with d := y.d + k, nt := joinG y.d y.nt G }
def begY (x : CL) (k : Int) (dt : ByteArray) : CL := { x with clk := inc x.clk, b := x.b + 1, ak := joinG x.b x.ak (oneG 8 (bC x k dt)), c := x.c + 1, tm := joinG x.c x.tm (oneG 2 [.int .i64 (inc x.clk), .int .i64 0]) }
def begE (x : CL) (k : Int) (dt : ByteArray) : Int := bif (x.b : Int) == 31 then 2 else bif bE x k dt != 0 then bE x k dt else sendE (begY x k dt) (bN x k dt)
def begC (x : CL) (k : Int) (dt : ByteArray) : CL := bif (x.b : Int) == 31 then zC else bif bE x k dt != 0 then zC else sendC (begY x k dt) (bN x k dt) (bG x k dt)
def svY (y : CL) (l : List Value) : CL := { y with nd := updG y.nd (mNo l).toNat (sC (y.nd (mNo l).toNat) l) }
def svE (y : CL) (l : List Value) : Int := sendE (svY y l) (sN (y.nd (mNo l).toNat) l)
def svC (y : CL) (l : List Value) : CL := sendC (svY y l) (sN (y.nd (mNo l).toNat) l) (sG (y.nd (mNo l).toNat) l)
def endB (y : CL) (l : List Value) : Bool := mNo ((heY y l).ak (mOp l).toNat) == 3
def endB2 (y : CL) (l : List Value) : Bool := intV (hdV (tlV (y.tm (mOp l).toNat))) == 0
def heZ (y : CL) (l : List Value) : CL := bif endB y l then bif endB2 y l then heT y l else heY y l else heY y l
def heE (y : CL) (l : List Value) : Int := bif endB y l then bif endB2 y l then sendE (heT y l) (hN y (y.ak (mOp l).toNat) l) else sendE (heY y l) (hN y (y.ak (mOp l).toNat) l) else sendE (heY y l) (hN y (y.ak (mOp l).toNat) l)
def heC (y : CL) (l : List Value) : CL := bif endB y l then bif endB2 y l then sendC (heT y l) (hN y (y.ak (mOp l).toNat) l) (hG y (y.ak (mOp l).toNat) l) else sendC (heY y l) (hN y (y.ak (mOp l).toNat) l) (hG y (y.ak (mOp l).toNat) l) else sendC (heY y l) (hN y (y.ak (mOp l).toNat) l) (hG y (y.ak (mOp l).toNat) l)
def brE (y : CL) (l : List Value) : Int := bif mKd l == 1 then svE y l else bif mKd l == 3 then svE y l else bif mKd l == 2 then heE y l else bif mKd l == 4 then heE y l else sendE y 0
def brC (y : CL) (l : List Value) : CL := bif mKd l == 1 then svC y l else bif mKd l == 3 then svC y l else bif mKd l == 2 then heC y l else bif mKd l == 4 then heC y l else sendC y 0 fun _ => []
def delY (x : CL) (n : Int) : CL := { x with clk := inc x.clk, d := x.d - 1, nt := delG n.toNat x.nt }
def incY (x : CL) : CL := { x with clk := inc x.clk }
/-- the error of a step, and the cluster behind it -/
def afE (x : CL) (kd n : Int) (dt : ByteArray) : Int := bif x.clk == 1000000 then 2 else bif x_cstep kd n dt != 0 then x_cstep kd n dt else bif kd == 1 then begE x 1 ⟨#[]⟩ else bif kd == 2 then begE x 2 dt else bif decide (n < 0) then 3 else bif decide (n ≥ (x.d : Int)) then 3 else bif kd == 5 then sendE (incY x) 1 else bif kd == 4 then 0 else brE (delY x n) (x.nt n.toNat)
def afC (x : CL) (kd n : Int) (dt : ByteArray) : CL := bif x.clk == 1000000 then zC else bif x_cstep kd n dt != 0 then zC else bif kd == 1 then begC x 1 ⟨#[]⟩ else bif kd == 2 then begC x 2 dt else bif decide (n < 0) then zC else bif decide (n ≥ (x.d : Int)) then zC else bif kd == 5 then sendC (incY x) 1 (oneG 6 (msV (x.nt n.toNat))) else bif kd == 4 then delY x n else brC (delY x n) (x.nt n.toNat)
def CL.chk (x : CL) : Int := x_cchk x.m x.w x.need x.a x.nd x.b x.ak x.c x.tm x.d x.nt x.clk
/-- a right cluster -/
structure Rt (x : CL) : Prop where
  q : qE (wsOf x.m x.w) x.need = 0
  am : x.a = x.m
  nox : ∀ j, j < x.a → noE x.nd j = 0
  b31 : x.b ≤ 31
  cb : x.c = x.b
  asx : ∀ j, j < x.b → asE x.m x.w x.need x.ak x.tm x.clk j = 0
  d200 : x.d ≤ 200
  nex : ∀ j, j < x.d → neE x.a x.b x.nt j = 0
  c0 : 0 ≤ x.clk
  c1 : x.clk ≤ 1000000
theorem bif_or {c : Bool} {a b : Int} (h : (bif c then a else b) = 0) : (c = true ∧ a = 0) ∨ (c = false ∧ b = 0) := by cases c; exact .inr ⟨rfl, h⟩; exact .inl ⟨rfl, h⟩
theorem bif_ne {a b : Int} (h : (bif a != 0 then a else b) = 0) : a = 0 ∧ b = 0 := by
  rcases bif_or h with ⟨h1, h2⟩ | ⟨h1, h2⟩
  · exact absurd h2 (bne_iff_ne.1 h1)
  · exact ⟨by simpa using h1, h2⟩
theorem bif_k {c : Bool} {a b : Int} (ha : a ≠ 0) (h : (bif c then a else b) = 0) : c = false ∧ b = 0 := by
  rcases bif_or h with ⟨_, h2⟩ | h1
  · exact absurd h2 ha
  · exact h1
theorem chk_rt {x : CL} : x.chk = 0 ↔ Rt x := by
  have eW : (fun j => x.w j) = x.w := rfl
  constructor
  · intro h
    unfold CL.chk x_cchk x_cvot x_cno x_cas x_cne x_cclk at h
    obtain ⟨h1, h⟩ := bif_ne h
    obtain ⟨h2, h⟩ := bif_ne h
    obtain ⟨h3, h⟩ := bif_ne h
    obtain ⟨h4, h⟩ := bif_ne h
    obtain ⟨h5, -⟩ := bif_ne h
    obtain ⟨a1, h2⟩ := bif_k (by decide) h2
    obtain ⟨a2, -⟩ := bif_ne h2
    obtain ⟨b1, h3⟩ := bif_k (by decide) h3
    obtain ⟨b2, h3⟩ := bif_k (by decide) h3
    obtain ⟨b3, -⟩ := bif_ne h3
    obtain ⟨c1, h4⟩ := bif_k (by decide) h4
    obtain ⟨c2, -⟩ := bif_ne h4
    obtain ⟨d1, h5⟩ := bif_k (by decide) h5
    obtain ⟨d2, -⟩ := bif_k (by decide) h5
    have a1 := bne_f2 a1
    have b1 := of_decide_eq_false b1
    have b2 := bne_f2 b2
    have c1 := of_decide_eq_false c1
    have d1 := of_decide_eq_false d1
    have d2 := of_decide_eq_false d2
    exact ⟨h1, by omega, fstE_zero a2, by omega, by omega, fstE_zero b3, by omega, fstE_zero c2, by omega, by omega⟩
  · rintro ⟨h1, h2, h3, h4, h5, h6, h7, h8, h9, h10⟩
    unfold CL.chk x_cchk x_cvot x_cno x_cas x_cne x_cclk
    have e1 : ((x.a : Int) != (x.m : Int)) = false := by rw [h2]; simp
    have e2 : ((x.c : Int) != (x.b : Int)) = false := by rw [h5]; simp
    have e3 : decide ((x.b : Int) > 31) = false := decide_eq_false (by omega)
    have e4 : decide ((x.d : Int) > 200) = false := decide_eq_false (by omega)
    have e5 : decide (x.clk < 0) = false := decide_eq_false (by omega)
    have e6 : decide (x.clk > 1000000) = false := decide_eq_false (by omega)
    rw [show qE (wsOf x.m fun j => (fun j => x.w j) j) x.need = 0 from h1, e1, show fstE (noE fun j => x.nd j) x.a = 0 from fstE_all h3, e3, e2, show fstE (asE x.m (fun j => x.w j) x.need (fun j => x.ak j) (fun j => x.tm j) x.clk) x.b = 0 from fstE_all h6, e4, show fstE (neE x.a x.b fun j => x.nt j) x.d = 0 from fstE_all h8, e5, e6]
    rfl
theorem Rt.m12 {x : CL} (h : Rt x) : x.m ≤ 12 := by
  have := (qE_m h.q).1
  rwa [ws_len] at this
abbrev TT : Lf := fun _ _ => True
theorem tst_two {c : Bool} {A B : CL → Int → Out} {ra rb : CL} {ea eb : Int} {Φ : Lf} (h1 : c = true → (A ra ea).sat Φ) (h2 : c = false → (B rb eb).sat Φ) : (tst c (A (bif c then ra else rb) (bif c then ea else eb)) (B (bif c then ra else rb) (bif c then ea else eb))).sat Φ := by
  cases c
  · exact sat_tst (fun h => by cases h) fun _ => h2 rfl
  · exact sat_tst (fun _ => h1 rfl) fun h => by cases h
theorem leafC_ok (y : CL) : (leafC y y 0).sat TT := sat_ask ⟨rfl, Nat.le_refl _, fun _ _ => rfl⟩ (sat_ask rfl (sat_ask ⟨rfl, Nat.le_refl _, fun _ _ => rfl⟩ (sat_ask ⟨rfl, Nat.le_refl _, fun _ _ => rfl⟩ (sat_ask ⟨rfl, Nat.le_refl _, fun _ _ => rfl⟩ (sat_ask ⟨rfl, Nat.le_refl _, fun _ _ => rfl⟩ (sat_ask rfl (sat_ask rfl sat_end)))))))
theorem leafE_ok (e : Int) : (leafE e zC e).sat TT := sat_ask rfl (sat_ask rfl (sat_ask rfl (sat_ask rfl (sat_ask rfl (sat_ask rfl (sat_ask rfl (sat_ask rfl sat_end)))))))
theorem send_ok {y : CL} {k : Nat} {G : Nat → List Value} (hd : y.d ≤ 1000) (hk : k ≤ 1000) : (sendO y k G (sendC y k G) (sendE y k)).sat TT :=
  tst_two (A := leafE 2) (B := fun R E => .ask (y.d ≤ y.d) (.ask (k + 0 ≤ k ∧ k ≤ 140737488355328) (.ask ((y.d + k) * 56 ≤ 140737488355328) (leafC { y with d := y.d + k, nt := joinG y.d y.nt G } R E))))
    (fun _ => leafE_ok 2) fun _ => sat_ask (Nat.le_refl _) (sat_ask ⟨by omega, by omega⟩ (sat_ask (by omega) (leafC_ok _)))
theorem twice {c : Bool} {A B : Out} {Φ : Lf} (hc : c = true) (h : A.sat Φ) : (tst c A B).sat Φ := by subst hc; exact h
theorem bN_le (x : CL) (k : Int) (dt : ByteArray) : bN x k dt ≤ x.m := by
  unfold bN n8_begin
  simp only [cond_eq_ite]
  split <;> omega
theorem sN_le (p l : List Value) : sN p l ≤ 1 := by
  unfold sN n3_serve
  simp only [cond_eq_ite]
  repeat' split
  all_goals omega
theorem hN_le (x : CL) (q l : List Value) : hN x q l ≤ x.m := by
  unfold hN n8_hear
  simp only [cond_eq_ite]
  repeat' split
  all_goals omega
theorem beg_ok {x : CL} (h : Rt x) (k : Int) (dt : ByteArray) : (begO x k dt (begC x k dt) (begE x k dt)).sat TT := by
  have h12 := h.m12
  have hb := h.b31
  have hc := h.cb
  have hd := h.d200
  have hn := bN_le x k dt
  have hs := send_ok (y := begY x k dt) (k := bN x k dt) (G := bG x k dt) (by show x.d ≤ 1000; omega) (by omega)
  exact tst_two (A := leafE 2) (B := fun R E => .ask (x.m ≤ x.m ∧ x.m ≤ 140737488355328) (tst (bE x k dt != 0) (tst (bE x k dt != 0) (leafE (bE x k dt) R E) (leafC { x with clk := inc x.clk } R E))
    (.ask (x.b ≤ x.b) (.ask (1 + 0 ≤ 1 ∧ 1 ≤ 140737488355328) (.ask ((x.b + 1) * 80 ≤ 140737488355328) (.ask (x.c ≤ x.c) (.ask (1 + 0 ≤ 1 ∧ 1 ≤ 140737488355328) (.ask ((x.c + 1) * 16 ≤ 140737488355328) (sendO (begY x k dt) (bN x k dt) (bG x k dt) R E))))))))) 
    (fun _ => leafE_ok 2) fun _ => sat_ask ⟨Nat.le_refl _, by omega⟩ (tst_two (A := fun R E => tst (bE x k dt != 0) (leafE (bE x k dt) R E) (leafC { x with clk := inc x.clk } R E)) (B := fun R E => .ask (x.b ≤ x.b) (.ask (1 + 0 ≤ 1 ∧ 1 ≤ 140737488355328) (.ask ((x.b + 1) * 80 ≤ 140737488355328) (.ask (x.c ≤ x.c) (.ask (1 + 0 ≤ 1 ∧ 1 ≤ 140737488355328) (.ask ((x.c + 1) * 16 ≤ 140737488355328) (sendO (begY x k dt) (bN x k dt) (bG x k dt) R E)))))))
      (fun hc => twice hc (leafE_ok _)) fun _ => sat_ask (Nat.le_refl _) (sat_ask ⟨by omega, by omega⟩ (sat_ask (by omega) (sat_ask (Nat.le_refl _) (sat_ask ⟨by omega, by omega⟩ (sat_ask (by omega) hs))))))
theorem sv_ok {y : CL} {l : List Value} (h1 : 0 ≤ mNo l ∧ mNo l < (y.a : Int)) (hd : y.d ≤ 1000) : (svO y l (svC y l) (svE y l)).sat TT := by
  have hi : (mNo l).toNat + 0 < y.a := by omega
  exact sat_ask h1 (sat_ask hi (sat_ask h1 (sat_ask hi (send_ok (y := svY y l) hd (by have := sN_le (y.nd (mNo l).toNat) l; omega)))))
theorem he_ok {y : CL} {l : List Value} (h1 : 0 ≤ mOp l ∧ mOp l < (y.b : Int)) (hcb : y.c = y.b) (hm : y.m ≤ 1000) (hd : y.d ≤ 1000) : (heO y l (heC y l) (heE y l)).sat TT := by
  have hi : (mOp l).toNat + 0 < y.b := by omega
  have h2 : 0 ≤ mOp l ∧ mOp l < (y.c : Int) := by omega
  have hi2 : (mOp l).toNat + 0 < y.c := by omega
  have hn := hN_le y (y.ak (mOp l).toNat) l
  have s1 := send_ok (y := heY y l) (k := hN y (y.ak (mOp l).toNat) l) (G := hG y (y.ak (mOp l).toNat) l) hd (by omega)
  have s2 := send_ok (y := heT y l) (k := hN y (y.ak (mOp l).toNat) l) (G := hG y (y.ak (mOp l).toNat) l) hd (by omega)
  exact sat_ask h1 (sat_ask hi (sat_ask ⟨Nat.le_refl _, by omega⟩ (sat_ask h1 (sat_ask hi (sat_ask h1 (sat_ask hi
    (tst_two (A := fun R E => .ask (0 ≤ mOp l ∧ mOp l < (y.c : Int)) (.ask ((mOp l).toNat + 0 < y.c) (tst (intV (hdV (tlV (y.tm (mOp l).toNat))) == 0) (.ask (0 ≤ mOp l ∧ mOp l < (y.c : Int)) (.ask ((mOp l).toNat + 0 < y.c)
      (sendO (heT y l) (hN y (y.ak (mOp l).toNat) l) (hG y (y.ak (mOp l).toNat) l) R E))) (sendO (heY y l) (hN y (y.ak (mOp l).toNat) l) (hG y (y.ak (mOp l).toNat) l) R E)))) (B := sendO (heY y l) (hN y (y.ak (mOp l).toNat) l) (hG y (y.ak (mOp l).toNat) l))
      (fun _ => sat_ask h2 (sat_ask hi2 (tst_two (A := fun R E => .ask (0 ≤ mOp l ∧ mOp l < (y.c : Int)) (.ask ((mOp l).toNat + 0 < y.c) (sendO (heT y l) (hN y (y.ak (mOp l).toNat) l) (hG y (y.ak (mOp l).toNat) l) R E))) (B := sendO (heY y l) (hN y (y.ak (mOp l).toNat) l) (hG y (y.ak (mOp l).toNat) l))
        (fun _ => sat_ask h2 (sat_ask hi2 s2)) fun _ => s1))) fun _ => s1)))))))
theorem nil_ok {y : CL} (hd : y.d ≤ 1000) : (nilO y (sendC y 0 fun _ => []) (sendE y 0)).sat TT :=
  tst_two (A := leafE 2) (B := fun R E => .ask (y.d ≤ y.d) (.ask (y.d * 56 ≤ 140737488355328) (leafC { y with nt := joinG y.d y.nt fun _ => [] } R E)))
    (fun _ => leafE_ok 2) fun _ => sat_ask (Nat.le_refl _) (sat_ask (by omega) (leafC_ok _))
theorem br_ok {y : CL} {l : List Value} (h1 : 0 ≤ mNo l ∧ mNo l < (y.a : Int)) (h2 : 0 ≤ mOp l ∧ mOp l < (y.b : Int)) (hcb : y.c = y.b) (hm : y.m ≤ 1000) (hd : y.d ≤ 1000) : (brO y l (brC y l) (brE y l)).sat TT :=
  tst_two (A := svO y l) (B := fun R E => tst (mKd l == 3) (svO y l R E) (tst (mKd l == 2) (heO y l R E) (tst (mKd l == 4) (heO y l R E) (nilO y R E)))) (fun _ => sv_ok h1 hd) fun _ =>
    tst_two (A := svO y l) (B := fun R E => tst (mKd l == 2) (heO y l R E) (tst (mKd l == 4) (heO y l R E) (nilO y R E))) (fun _ => sv_ok h1 hd) fun _ =>
      tst_two (A := heO y l) (B := fun R E => tst (mKd l == 4) (heO y l R E) (nilO y R E)) (fun _ => he_ok h2 hcb hm hd) fun _ =>
        tst_two (A := heO y l) (B := nilO y) (fun _ => he_ok h2 hcb hm hd) fun _ => nil_ok hd
theorem ne_at {x : CL} (h : Rt x) {j : Nat} (hj : j < x.d) : mChk (x.nt j) = 0 ∧ mNo (x.nt j) < (x.a : Int) ∧ mOp (x.nt j) < (x.b : Int) := by
  have h1 := h.nex j hj
  unfold neE at h1
  obtain ⟨h2, h1⟩ := bif_ne h1
  obtain ⟨h3, h1⟩ := bif_k (by decide) h1
  obtain ⟨h4, -⟩ := bif_k (by decide) h1
  have h3 := of_decide_eq_false h3
  have h4 := of_decide_eq_false h4
  exact ⟨h2, by show intV _ < _; omega, by show intV _ < _; omega⟩
theorem mchk_rng {l : List Value} (h : mChk l = 0) : 0 ≤ mOp l ∧ mOp l < 31 ∧ 0 ≤ mNo l ∧ mNo l < 12 ∧ x_wkind (mKd l) = true := by
  unfold mChk x_wchk at h
  obtain ⟨h1, h⟩ := bif_k (by decide) h
  obtain ⟨h2, h⟩ := bif_k (by decide) h
  obtain ⟨h3, h⟩ := bif_k (by decide) h
  obtain ⟨h4, h⟩ := bif_k (by decide) h
  obtain ⟨h5, h⟩ := bif_k (by decide) h
  have h2 := of_decide_eq_false h2
  have h3 := of_decide_eq_false h3
  have h4 := of_decide_eq_false h4
  have h5 := of_decide_eq_false h5
  exact ⟨by show 0 ≤ intV _; omega, by show intV _ < _; omega, by show 0 ≤ intV _; omega, by show intV _ < _; omega, by simpa using h1⟩
theorem aft_ok {x : CL} (h : Rt x) (kd n : Int) (dt : ByteArray) : (aftO x kd n dt (afC x kd n dt) (afE x kd n dt)).sat TT := by
  have h12 := h.m12
  have ha := h.am
  have hb := h.b31
  have hc := h.cb
  have hd := h.d200
  refine sat_ask ⟨Nat.le_refl _, by omega⟩ (sat_ask ⟨Nat.le_refl _, by omega⟩ (sat_ask ⟨Nat.le_refl _, by omega⟩ (sat_ask ⟨Nat.le_refl _, by omega⟩ (sat_ask ⟨Nat.le_refl _, by omega⟩ (sat_ask ⟨by omega, by omega, by omega, by omega, by omega⟩ ?_)))))
  refine tst_two (A := leafE 2) (B := fun R E => tst (x_cstep kd n dt != 0) (tst (x_cstep kd n dt != 0) (leafE (x_cstep kd n dt) R E) (leafC x R E)) (tst (kd == 1) (begO x 1 ⟨#[]⟩ R E) (tst (kd == 2) (begO x 2 dt R E)
      (tst (decide (n < 0)) (leafE 3 R E) (tst (decide (n ≥ (x.d : Int))) (leafE 3 R E) (.ask (0 ≤ n ∧ n < (x.d : Int)) (.ask (n.toNat + 0 < x.d) (tst (kd == 5) (sendO { x with clk := inc x.clk } 1 (oneG 6 (msV (x.nt n.toNat))) R E)
        (.ask (x.d = x.d ∧ 0 ≤ n ∧ n < (x.d : Int) ∧ IntKind.wrap .i64 (n + 1) = n + 1) (tst (kd == 4) (leafC { x with clk := inc x.clk, d := x.d - 1, nt := delG n.toNat x.nt } R E)
          (brO { x with clk := inc x.clk, d := x.d - 1, nt := delG n.toNat x.nt } (x.nt n.toNat) R E))))))))))) (fun _ => leafE_ok 2) fun _ => ?_
  refine tst_two (A := fun R E => tst (x_cstep kd n dt != 0) (leafE (x_cstep kd n dt) R E) (leafC x R E)) (B := fun R E => tst (kd == 1) (begO x 1 ⟨#[]⟩ R E) (tst (kd == 2) (begO x 2 dt R E)
      (tst (decide (n < 0)) (leafE 3 R E) (tst (decide (n ≥ (x.d : Int))) (leafE 3 R E) (.ask (0 ≤ n ∧ n < (x.d : Int)) (.ask (n.toNat + 0 < x.d) (tst (kd == 5) (sendO { x with clk := inc x.clk } 1 (oneG 6 (msV (x.nt n.toNat))) R E)
        (.ask (x.d = x.d ∧ 0 ≤ n ∧ n < (x.d : Int) ∧ IntKind.wrap .i64 (n + 1) = n + 1) (tst (kd == 4) (leafC { x with clk := inc x.clk, d := x.d - 1, nt := delG n.toNat x.nt } R E)
          (brO { x with clk := inc x.clk, d := x.d - 1, nt := delG n.toNat x.nt } (x.nt n.toNat) R E)))))))))) (fun hc => twice hc (leafE_ok _)) fun _ => ?_
  refine tst_two (A := begO x 1 ⟨#[]⟩) (B := fun R E => tst (kd == 2) (begO x 2 dt R E)
      (tst (decide (n < 0)) (leafE 3 R E) (tst (decide (n ≥ (x.d : Int))) (leafE 3 R E) (.ask (0 ≤ n ∧ n < (x.d : Int)) (.ask (n.toNat + 0 < x.d) (tst (kd == 5) (sendO { x with clk := inc x.clk } 1 (oneG 6 (msV (x.nt n.toNat))) R E)
        (.ask (x.d = x.d ∧ 0 ≤ n ∧ n < (x.d : Int) ∧ IntKind.wrap .i64 (n + 1) = n + 1) (tst (kd == 4) (leafC { x with clk := inc x.clk, d := x.d - 1, nt := delG n.toNat x.nt } R E)
          (brO { x with clk := inc x.clk, d := x.d - 1, nt := delG n.toNat x.nt } (x.nt n.toNat) R E))))))))) (fun _ => beg_ok h 1 _) fun _ => ?_
  refine tst_two (A := begO x 2 dt) (B := fun R E => tst (decide (n < 0)) (leafE 3 R E) (tst (decide (n ≥ (x.d : Int))) (leafE 3 R E) (.ask (0 ≤ n ∧ n < (x.d : Int)) (.ask (n.toNat + 0 < x.d) (tst (kd == 5) (sendO { x with clk := inc x.clk } 1 (oneG 6 (msV (x.nt n.toNat))) R E)
        (.ask (x.d = x.d ∧ 0 ≤ n ∧ n < (x.d : Int) ∧ IntKind.wrap .i64 (n + 1) = n + 1) (tst (kd == 4) (leafC { x with clk := inc x.clk, d := x.d - 1, nt := delG n.toNat x.nt } R E)
          (brO { x with clk := inc x.clk, d := x.d - 1, nt := delG n.toNat x.nt } (x.nt n.toNat) R E)))))))) (fun _ => beg_ok h 2 dt) fun _ => ?_
  refine tst_two (A := leafE 3) (B := fun R E => tst (decide (n ≥ (x.d : Int))) (leafE 3 R E) (.ask (0 ≤ n ∧ n < (x.d : Int)) (.ask (n.toNat + 0 < x.d) (tst (kd == 5) (sendO { x with clk := inc x.clk } 1 (oneG 6 (msV (x.nt n.toNat))) R E)
        (.ask (x.d = x.d ∧ 0 ≤ n ∧ n < (x.d : Int) ∧ IntKind.wrap .i64 (n + 1) = n + 1) (tst (kd == 4) (leafC { x with clk := inc x.clk, d := x.d - 1, nt := delG n.toNat x.nt } R E)
          (brO { x with clk := inc x.clk, d := x.d - 1, nt := delG n.toNat x.nt } (x.nt n.toNat) R E))))))) (fun _ => leafE_ok 3) fun hn0 => ?_
  refine tst_two (A := leafE 3) (B := fun R E => .ask (0 ≤ n ∧ n < (x.d : Int)) (.ask (n.toNat + 0 < x.d) (tst (kd == 5) (sendO { x with clk := inc x.clk } 1 (oneG 6 (msV (x.nt n.toNat))) R E)
        (.ask (x.d = x.d ∧ 0 ≤ n ∧ n < (x.d : Int) ∧ IntKind.wrap .i64 (n + 1) = n + 1) (tst (kd == 4) (leafC { x with clk := inc x.clk, d := x.d - 1, nt := delG n.toNat x.nt } R E)
          (brO { x with clk := inc x.clk, d := x.d - 1, nt := delG n.toNat x.nt } (x.nt n.toNat) R E)))))) (fun _ => leafE_ok 3) fun hn1 => ?_
  have hn0 := of_decide_eq_false hn0
  have hn1 := of_decide_eq_false hn1
  have hw : IntKind.wrap .i64 (n + 1) = n + 1 := by rw [IntKind.wrap_i64]; omega
  have hj : n.toNat < x.d := by omega
  obtain ⟨e1, e2, e3⟩ := ne_at h hj
  obtain ⟨r1, r2, r3, r4, -⟩ := mchk_rng e1
  refine sat_ask ⟨by omega, by omega⟩ (sat_ask (by omega) (tst_two (A := sendO { x with clk := inc x.clk } 1 (oneG 6 (msV (x.nt n.toNat)))) (B := fun R E => .ask (x.d = x.d ∧ 0 ≤ n ∧ n < (x.d : Int) ∧ IntKind.wrap .i64 (n + 1) = n + 1) (tst (kd == 4) (leafC { x with clk := inc x.clk, d := x.d - 1, nt := delG n.toNat x.nt } R E)
          (brO { x with clk := inc x.clk, d := x.d - 1, nt := delG n.toNat x.nt } (x.nt n.toNat) R E))) (fun _ => send_ok (y := incY x) (by show x.d ≤ 1000; omega) (by omega)) fun _ => sat_ask ⟨rfl, by omega, by omega, hw⟩ ?_))
  exact tst_two (A := leafC (delY x n)) (B := brO (delY x n) (x.nt n.toNat)) (fun _ => leafC_ok _) fun _ => br_ok ⟨r3, e2⟩ ⟨r1, e3⟩ hc (by show x.m ≤ 1000; omega) (by show x.d - 1 ≤ 1000; omega)
abbrev stpK : CK := .one .val
def aAft : List CA → Prop
  | [.rows _ m w, .val (.int .i64 need), .rows _ a nd, .rows _ b ak, .rows _ c tm, .rows _ d nt, .val (.int .i64 clk), _] => Rt ⟨m, w, need, a, nd, b, ak, c, tm, d, nt, clk⟩
  | _ => False
def gAft : List CA → Option (List RC)
  | [.rows _ m w, .val (.int .i64 need), .rows _ a nd, .rows _ b ak, .rows _ c tm, .rows _ d nt, .val (.int .i64 clk), .val (.agg ⟨[.int .i64 kd, .int .i64 n, .string dt]⟩)] => some ((afC ⟨m, w, need, a, nd, b, ak, c, tm, d, nt, clk⟩ kd n dt).rcs ++ [.val (.int .i64 (afE ⟨m, w, need, a, nd, b, ak, c, tm, d, nt, clk⟩ kd n dt))])
  | _ => none
set_option maxRecDepth 100000 in
theorem f_after : FOk K35.P 24 (listF [CLK, stpK] [CLK, stpK] aAft gAft) := list_f K35_ok Try.func24 rfl rfl (no_loops rfl) fun cas rs hb hk ha h => by
  unfold gAft at h
  split at h
  · rename_i s0 m w need s1 a nd s2 b ak s3 c tm s4 d nt clk kd n dt
    have e0 := kind_rows (i := 0) hk rfl rfl
    subst e0
    have e1 := kind_rows (i := 2) hk rfl rfl
    subst e1
    have e2 := kind_rows (i := 3) hk rfl rfl
    subst e2
    have e3 := kind_rows (i := 4) hk rfl rfl
    subst e3
    have e4 := kind_rows (i := 5) hk rfl rfl
    subst e4
    have ha : Rt ⟨m, w, need, a, nd, b, ak, c, tm, d, nt, clk⟩ := ha
    cases h
    generalize hx : (⟨m, w, need, a, nd, b, ak, c, tm, d, nt, clk⟩ : CL) = x at ha ⊢
    have run := run_after x kd n dt (afC x kd n dt) (afE x kd n dt)
    have ok := aft_ok ha kd n dt
    rw [← run] at ok
    subst hx
    exact ok
  · cases h
noncomputable def K36 : Kn := K35.addF 24 (listF [CLK, stpK] [CLK, stpK] aAft gAft)
theorem K36_ok : K36.Ok := K35_ok.addF f_after
end Go.Proofs.Ytpkckgdpdnkbeaa
