/- A symbolic run of Go code: regions whose operations come in an order that Go leaves open. -/
import Derived.Test.YtcplbpnpcmgjfabYo
namespace Go.Proofs.Ytcplbpnpcmgjfab
open Go.RowKit
/-- what an operation does to memory: nothing; a new object, at a place laid for it; other cells in one of ours -/
inductive Eff where
  | none
  | new (i T : Nat) (cs : List Value)
  | set (i T : Nat) (cs : List Value)
def Eff.id : Eff → Option Nat
  | .none => Option.none
  | .new i _ _ => some i
  | .set i _ _ => some i
def effH (H : List AObj) : Eff → List AObj
  | .none => H
  | .new i T cs => setL H i (.cells T cs)
  | .set i T cs => setL H i (.cells T cs)
/-- so many times the same cells -/
def repL : Nat → List Value → List Value
  | 0, _ => []
  | n + 1, z => z ++ repL n z
/-- AN OPERATION: what it yields and does -/
def rx (En : Env) (o : Oper) (S : ASt) (id : Nat) (k : Value × Eff → Out) : Out :=
  match o.op with
  | .alloc t => (match En.P.info? t with
    | some inf => (match inf.zero with
      | some z => (match selfB z with | true => k (.pointer (some ⟨id, 0, none⟩), .new id t (cellsL z)) | false => .bad)
      | none => .bad)
    | none => .bad)
  | .box t x => (match S.ev x with | some v => k (.pointer (some ⟨id, 0, none⟩), .new id t (cellsL v)) | none => .bad)
  | .store t x y => (match S.ev x with
    | some (.pointer (some ⟨i, off, none⟩)) => (match nthL S.heap i with
      | some (.cells T cs) => (match S.ev y with
        | some v => (match En.P.info? t with
          | some inf => (match Nat.beq (cellsL v).length inf.size && Nat.ble (off + (cellsL v).length) cs.length && allB scal (cellsL v) with
            | true => k (undef, .set i T (putAt cs off (cellsL v)))
            | false => .bad)
          | none => .bad)
        | none => .bad)
      | _ => .bad)
    | _ => .bad)
  | .buildSlice t len ⟨ps⟩ => (match En.P.underlying t with
    | some (.slice e) => (match En.P.info? e with
      | some inf => (match inf.zero with
        | some z => (match selfB z && Nat.beq (cellsL z).length inf.size && Nat.blt 0 inf.size && Nat.ble (len * inf.size) 16777216 with
          | true => (match evP S ps with
            | some ps => (match lfill (fun i => some (i * inf.size, inf.size)) (repL len (cellsL z)) ps with
              | some cs => k (.slice (some ⟨id, 0, none⟩) len len, .new id e cs)
              | none => .bad)
            | none => .bad)
          | false => .bad)
        | none => .bad)
      | none => .bad)
    | _ => .bad)
  | _ => vop En o S fun v => k (v, .none)
/-- does it read memory? -/
def readsH : Op → Bool
  | .move _ | .assign _ | .pick .. | .extract .. | .field .. | .build .. | .binOp .. | .unOp .. | .convert .. | .fieldAddr .. | .alloc _ | .box .. | .buildSlice .. | .index .. => false
  | _ => true
/-- of list l, number j: -/
def memN (t : Nat) : List Nat → Bool
  | [] => false
  | u :: l => Nat.beq t u || memN t l
def maskS (keep : List Nat) : Nat → List (Option Value) → List (Option Value)
  | _, [] => []
  | j, v :: l => (bif memN j keep then v else none) :: maskS keep (j + 1) l
def maskH (all : Bool) (gone : List Nat) : Nat → List AObj → List AObj
  | _, [] => []
  | j, o :: l => (bif all || memN j gone then .gone else o) :: maskH all gone (j + 1) l
/-- the operations that one waits for, itself aside -/
def direct (o : Oper) : List Nat := (o.after.toList.filter fun e => Region.binds .any e).map (·.on)
def addN (t : Nat) (l : List Nat) : List Nat := bif memN t l then l else t :: l
def mergeN : List Nat → List Nat → List Nat
  | [], b => b
  | x :: a, b => addN x (mergeN a b)
def uniN (acc : List (List Nat)) : List Nat → List Nat
  | [] => []
  | d :: ds => addN d (mergeN ((nthL acc d).getD []) (uniN acc ds))
def depTab : List (List Nat) → List Oper → List (List Nat)
  | acc, [] => acc
  | acc, o :: l => depTab (acc ++ [uniN acc (direct o)]) l
/-- all that one waits for -/
def depN (ops : List Oper) (i : Nat) : List Nat := (nthL (depTab [] ops) i).getD []
/-- what came of an operation: not wanted; or what it yields and does -/
abbrev Rc := Option (Value × Eff)
def Rc.id : Rc → Option Nat
  | some (_, e) => e.id
  | none => none
def Rc.val : Rc → Value
  | some (v, _) => v
  | none => undef
def Rc.heap (r : Rc) (H : List AObj) : List AObj :=
  match r with
  | some (_, e) => effH H e
  | none => H
def putO (S : List (Option Value)) (d : Option Tmp) (v : Value) : List (Option Value) :=
  match d with
  | some t => setO S t v
  | none => S
def ASt.app (S : ASt) (o : Oper) (r : Rc) : ASt := ⟨putO S.slots o.dst (Rc.val r), Rc.heap r S.heap⟩
/-- places that those which one does not wait for have turned -/
def goneFor (deps : List Nat) : Nat → List Rc → List Nat
  | _, [] => []
  | q, r :: l => match Rc.id r with
    | some e => bif memN q deps then goneFor deps (q + 1) l else e :: goneFor deps (q + 1) l
    | none => goneFor deps (q + 1) l
def restr (ops : List Oper) (j : Nat) (o : Oper) (rs : List Rc) (S : ASt) : ASt :=
  ⟨maskS (o.looksAt ⟨ops⟩) 0 S.slots, maskH (!readsH o.op) (goneFor (depN ops j) 0 rs) 0 S.heap⟩
def gtest (S : ASt) (ops : List Oper) (g : Option (Nat × Bool)) (yes no : ASt → Out) : Out :=
  match g with
  | none => yes S
  | some (j, want) => (match nthL ops j with
    | some oj => (match oj.dst with
      | some t => (match nthO S.slots t with
        | some (.bool b) => tst b (bif want then yes (S.put (some t) (.bool true)) else no (S.put (some t) (.bool true))) (bif want then no (S.put (some t) (.bool false)) else yes (S.put (some t) (.bool false)))
        | some (.tuple _) => no S
        | _ => .bad)
      | none => .bad)
    | none => .bad)
/-- THE OPERATIONS IN THE TEXT'S ORDER, each on what it may lean on alone; rs: what came of those before -/
def evAny (En : Env) (ops : List Oper) (n0 : Nat) : Nat → List Oper → List Rc → ASt → (List Rc → ASt → Out) → Out
  | _, [], rs, S, k => k rs S
  | j, o :: l, rs, S, k => gtest S ops o.guard
      (fun S => rx En o (restr ops j o rs S) (n0 + j) fun r => evAny En ops n0 (j + 1) l (rs ++ [some r]) (S.app o (some r)) k)
      (fun S => evAny En ops n0 (j + 1) l (rs ++ [none]) (S.app o none) k)
/-- does one not turn what the other leans on? -/
def okPair (ops : List Oper) (oi oq : Oper) (ri rq : Rc) : Bool :=
  (match oq.dst with | some d => !(memN d (oi.looksAt ⟨ops⟩)) && (match oi.dst with | some d' => !(Nat.beq d d') | none => true) | none => true) &&
  (match rq with
    | some (_, .set e _ _) => !(readsH oi.op) && (match Rc.id ri with | some e' => !(Nat.beq e e') | none => true)
    | _ => true)
/-- whoever turns an object that is made here waits for its maker -/
def okSet (deps : List Nat) (n0 i : Nat) (rq : Rc) : Bool :=
  match rq with
  | some (_, .set e _ _) => !(Nat.beq e (n0 + i)) || memN i deps
  | _ => true
def okRow (ops : List Oper) (n0 : Nat) (i : Nat) (oi : Oper) (ri : Rc) : Nat → List Oper → List Rc → Bool
  | q, oq :: l, rq :: lr => ((Nat.beq q i || memN q (depN ops i) || memN i (depN ops q) || okPair ops oi oq ri rq) && okSet (depN ops q) n0 i rq) && okRow ops n0 i oi ri (q + 1) l lr
  | _, [], [] => true
  | _, _, _ => false
def okAll (ops : List Oper) (n0 : Nat) (rs : List Rc) : Nat → List Oper → List Rc → Bool
  | i, oi :: l, ri :: lr => okRow ops n0 i oi ri 0 ops rs && okAll ops n0 rs (i + 1) l lr
  | _, [], [] => true
  | _, _, _ => false
/-- no edge runs backwards -/
def fwd : Nat → List Oper → Bool
  | _, [] => true
  | j, o :: l => (direct o).all (fun q => Nat.blt q j) && (match o.op with | .select .. => false | _ => true) && fwd (j + 1) l
def goneL : Nat → List AObj
  | 0 => []
  | n + 1 => .gone :: goneL n
/-- A REGION IN ANY ORDER -/
def evReg (En : Env) (ops : List Oper) (S : ASt) (k : ASt → Out) : Out :=
  match fwd 0 ops with
  | true => evAny En ops S.heap.length 0 ops [] ⟨S.slots, S.heap ++ goneL ops.length⟩ fun rs S' => (match okAll ops S.heap.length rs 0 ops rs with | true => k S' | false => .bad)
  | false => .bad
end Go.Proofs.Ytcplbpnpcmgjfab
