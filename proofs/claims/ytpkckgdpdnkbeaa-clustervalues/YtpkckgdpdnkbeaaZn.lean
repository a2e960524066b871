/- A symbolic run of Go code: regions whose operations come in an order that Go leaves open. -/
import Derived.Test.YtpkckgdpdnkbeaaZo
namespace Go.Proofs.Ytpkckgdpdnkbeaa
open Go.RowKit
/-- what an operation does to memory: objects that are others now, or new ones at places laid for them -/
abbrev Eff := List (Nat × AObj)
def effIds : Eff → List Nat
  | [] => []
  | (i, _) :: l => i :: effIds l
def effH (H : List AObj) : Eff → List AObj
  | [] => H
  | (i, o) :: l => effH (setL H i o) l
def newsAt (id : Nat) : List AObj → Eff
  | [] => []
  | o :: l => (id, o) :: newsAt (id + 1) l
/-- so many times the same cells -/
def repL : Nat → List Value → List Value
  | 0, _ => []
  | n + 1, z => z ++ repL n z
def updG (g : Nat → List Value) (r : Nat) (x : List Value) : Nat → List Value := fun j => bif Nat.beq j r then x else g j
/-- values by their heads, so that no later look has to find them anew -/
def headV (v : Value) (k : Value → Out) : Out :=
  match v with
  | .int kd x => k (.int kd x)
  | .string s => k (.string s)
  | .bool b => k (.bool b)
  | .slice a l c => k (.slice a l c)
  | .pointer a => k (.pointer a)
  | v => k v
def headsV : List Value → (List Value → Out) → Out
  | [], k => k []
  | v :: l, k => headV v fun v => headsV l fun l => k (v :: l)
def headA (v : Value) (k : Value → Out) : Out :=
  match v with
  | .agg ⟨cs⟩ => headsV cs fun cs => k (.agg ⟨cs⟩)
  | v => headV v k
def headsA : List Value → (List Value → Out) → Out
  | [], k => k []
  | v :: l, k => headA v fun v => headsA l fun l => k (v :: l)
def headR (v : Value) (k : Value → Out) : Out :=
  match v with
  | .tuple ⟨cs⟩ => headsA cs fun cs => k (.tuple ⟨cs⟩)
  | v => headA v k
def headO (o : AObj) (k : AObj → Out) : Out :=
  match o with
  | .cells T cs => headsV cs fun cs => k (.cells T cs)
  | .row e sh n g => k (.row e sh n g)
  | o => k o
def headE : Eff → (Eff → Out) → Out
  | [], k => k []
  | (i, o) :: l, k => headO o fun o => headE l fun l => k ((i, o) :: l)
def headX (r : Value × Eff) (k : Value × Eff → Out) : Out := headR r.1 fun v => headE r.2 fun e => k (v, e)
theorem headV_eq (v : Value) (k : Value → Out) : headV v k = k v := by unfold headV; split <;> rfl
theorem headsV_eq : ∀ (l : List Value) (k : List Value → Out), headsV l k = k l
  | [], _ => rfl
  | v :: l, k => by rw [headsV, headV_eq, headsV_eq l]
theorem headA_eq (v : Value) (k : Value → Out) : headA v k = k v := by
  unfold headA
  split
  · rw [headsV_eq]
  · exact headV_eq _ _
theorem headsA_eq : ∀ (l : List Value) (k : List Value → Out), headsA l k = k l
  | [], _ => rfl
  | v :: l, k => by rw [headsA, headA_eq, headsA_eq l]
theorem headR_eq (v : Value) (k : Value → Out) : headR v k = k v := by
  unfold headR
  split
  · rw [headsA_eq]
  · exact headA_eq _ _
theorem headO_eq (o : AObj) (k : AObj → Out) : headO o k = k o := by
  unfold headO
  split
  · rw [headsV_eq]
  · rfl
  · rfl
theorem headE_eq : ∀ (l : Eff) (k : Eff → Out), headE l k = k l
  | [], _ => rfl
  | (i, o) :: l, k => by rw [headE, headO_eq, headE_eq l]
theorem headX_eq (r : Value × Eff) (k : Value × Eff → Out) : headX r k = k r := by unfold headX; rw [headR_eq, headE_eq]
def xstore (P : Program) (t : TypeId) (H : List AObj) (x y : Option Value) (k : Value × Eff → Out) : Out :=
  match x with
  | some (.pointer (some ⟨i, off, sp⟩)) => (match y with
    | some v => (match P.info? t with
      | some inf => (match Nat.beq (cellsL v).length inf.size && allB scal (cellsL v) with
        | true => (match nthL H i with
          | some (.cells T cs) => (match sp with
            | none => (match Nat.ble (off + (cellsL v).length) cs.length with
              | true => k (undef, [(i, .cells T (putAt cs off (cellsL v)))])
              | false => .bad)
            | some _ => .bad)
          | some (.row e sh n g) => (match sp with
            | some r => (match Nat.ble (off + (cellsL v).length) sh.length && fits sh (putAt (norm sh (g r)) off (cellsL v)) with
              | true => .ask (r < n) (headsV (putAt (norm sh (g r)) off (cellsL v)) fun l => k (undef, [(i, .row e sh n (updG g r l))]))
              | false => .bad)
            | none => .bad)
          | _ => .bad)
        | false => .bad)
      | none => .bad)
    | none => .bad)
  | _ => .bad
/-- a list out of parts, as an object -/
def litO (P : Program) (e : TypeId) (size len : Nat) (cs : List Value) : Option (List LK) :=
  match kindsOf P 9 e with
  | some sh => (match Nat.beq sh.length size && Nat.ble len 140737488355328 && fitsAll sh (chunk cs 0 size len) with | true => some sh | false => none)
  | none => none
def xbuildS (P : Program) (t : TypeId) (len : Nat) (ps : Option (List (Nat × Value))) (id : Nat) (k : Value × Eff → Out) : Out :=
  match P.underlying t with
  | some (.slice e) => (match P.info? e with
    | some inf => (match inf.zero with
      | some z => (match selfB z && Nat.beq (cellsL z).length inf.size && Nat.blt 0 inf.size && Nat.ble (len * inf.size) 16777216 with
        | true => (match ps with
          | some ps => (match lfill (fun i => some (i * inf.size, inf.size)) (repL len (cellsL z)) ps with
            | some cs => (match litO P e inf.size len cs with
              | some sh => k (.slice (some ⟨id, 0, some 0⟩) len len, [(id, .row e sh len fun j => (nthL (chunk cs 0 inf.size len) j).getD [])])
              | none => k (.slice (some ⟨id, 0, none⟩) len len, [(id, .cells e cs)]))
            | none => .bad)
          | none => .bad)
        | false => .bad)
      | none => .bad)
    | none => .bad)
  | _ => .bad
def xmake (P : Program) (t : TypeId) (l c : Option Value) (id : Nat) (k : Value × Eff → Out) : Out :=
  match P.underlying t with
  | some (.slice e) => (match P.info? e with
    | some inf => (match inf.zero with
      | some z => (match kindsOf P 9 e with
        | some sh => (match Nat.beq inf.size sh.length && fits sh (cellsL z) && Nat.blt 0 sh.length with
          | true => (match l with
            | some (.int .i64 l) => (match c with
              | some (.int .i64 c) => .ask (0 ≤ l ∧ l ≤ c ∧ (inf.bytes : Int) * c ≤ 281474976710656 ∧ c ≤ 9223372036854775807) (k (.slice (some ⟨id, 0, some 0⟩) l.toNat l.toNat, [(id, .row e sh l.toNat fun _ => cellsL z)]))
              | _ => .bad)
            | _ => .bad)
          | false => .bad)
        | none => .bad)
      | none => .bad)
    | none => .bad)
  | _ => .bad
def xappend (P : Program) (t : TypeId) (H : List AObj) (x y : Option Value) (id : Nat) (k : Value × Eff → Out) : Out :=
  match P.underlying t with
  | some (.slice e) => (match P.info? e with
    | some inf => (match inf.zero with
      | some z => (match kindsOf P 9 e with
        | some sh => (match Nat.beq inf.size sh.length && Nat.beq (cellsL z).length sh.length && Nat.blt 0 sh.length && Nat.blt 0 inf.bytes with
          | true => (match x with
            | some x => (match y with
              | some y => appAt H e sh x fun gs n g => rowsOf H sh y fun m f => .ask ((n + m) * inf.bytes ≤ 140737488355328) (k (.slice (some ⟨id, 0, some 0⟩) (n + m) (n + m), gs ++ [(id, .row e sh (n + m) (joinG n g f))]))
              | none => .bad)
            | none => .bad)
          | false => .bad)
        | none => .bad)
      | none => .bad)
    | none => .bad)
  | _ => .bad
def xcall (F : FCon) (x : Option (List Value)) (fs cs : List Value) (H : List AObj) (id : Nat) (k : Value × Eff → Out) : Out :=
  match x with
  | some vs => F (fs ++ vs ++ cs) H fun R => k (R.1 id, newsAt id R.2)
  | none => .bad
/-- is no entry of that key there? -/
def absent (n : Int) : List MapEntry → Bool
  | [] => true
  | e :: l => (match e.key with | .int .i64 m => !(n == m) | _ => false) && absent n l
/-- a map of whole numbers, one entry more -/
def xinsert (P : Program) (t : TypeId) (H : List AObj) (m x y : Option Value) (k : Value × Eff → Out) : Out :=
  match P.underlying t with
  | some (.map kt _) => (match P.underlying kt with
    | some (.int .i64) => (match m with
      | some (.map (some i)) => (match x with
        | some (.int .i64 n) => (match y with
          | some v => (match clean v with
            | true => (match nthL H i with
              | some (.mp es c) => (match absent n es with
                | true => k (undef, [(i, .mp (es ++ [⟨.int .i64 n, v, c⟩]) (c + 1))])
                | false => .bad)
              | _ => .bad)
            | false => .bad)
          | none => .bad)
        | _ => .bad)
      | _ => .bad)
    | _ => .bad)
  | _ => .bad
/-- the function that a value is, and what comes with it -/
def fnOf : Option Value → Option (FuncId × List Value × List Value)
  | some (.func (.func g) ⟨fs⟩ ⟨cs⟩) => some (g, fs, cs)
  | _ => none
/-- AN OPERATION: what it yields and does -/
def rx (En : Env) (o : Oper) (S : ASt) (id : Nat) (k : Value × Eff → Out) : Out :=
  match o.op with
  | .alloc t => (match En.P.info? t with
    | some inf => (match inf.zero with
      | some z => (match selfB z with | true => k (.pointer (some ⟨id, 0, none⟩), [(id, .cells t (cellsL z))]) | false => .bad)
      | none => .bad)
    | none => .bad)
  | .box t x => (match S.ev x with | some v => k (.pointer (some ⟨id, 0, none⟩), [(id, .cells t (cellsL v))]) | none => .bad)
  | .store t x y => xstore En.P t S.heap (S.ev x) (S.ev y) k
  | .buildSlice t len ⟨ps⟩ => xbuildS En.P t len (evP S ps) id k
  | .makeSlice t l c => xmake En.P t (S.ev l) (S.ev c) id k
  | .makeMap _ none => k (.map (some id), [(id, .mp [] 0)])
  | .insert t m x y => xinsert En.P t S.heap (S.ev m) (S.ev x) (S.ev y) k
  | .call ⟨.builtin .append, ⟨[x, y]⟩, ⟨[t, t']⟩⟩ => (match Nat.beq t t' with
    | true => xappend En.P t S.heap (S.ev x) (S.ev y) id k
    | false => .bad)
  | .call ⟨.value f, ⟨xs⟩, _⟩ => (match fnOf (S.ev f) with
    | some (g, fs, cs) => (match En.F g with
      | some F => xcall F (evL S xs) fs cs S.heap id k
      | none => vop En o S fun v => k (v, []))
    | none => .bad)
  | _ => vop En o S fun v => k (v, [])
/-- how many new objects it may make, as the state has it -/
def need (En : Env) (o : Oper) (S : ASt) : Nat :=
  match o.op with
  | .alloc _ | .box .. | .buildSlice .. | .makeSlice .. | .makeMap .. => 1
  | .call ⟨.builtin .append, _, _⟩ => 1
  | .call ⟨.value f, _, _⟩ => (match fnOf (S.ev f) with | some (g, _, _) => (match En.F g with | some _ => 6 | none => 0) | none => 0)
  | _ => 0
def wfn (En : Env) : Operand → Nat
  | .func g => (match En.F g with | some _ => 6 | none => 0)
  | _ => 6
/-- how many new objects it may make -/
def wd (En : Env) (o : Oper) : Nat :=
  match o.op with
  | .alloc _ | .box .. | .buildSlice .. | .makeSlice .. | .makeMap .. => 1
  | .call ⟨.builtin .append, _, _⟩ => 1
  | .call ⟨.value f, _, _⟩ => wfn En f
  | _ => 0
/-- where an operation's new objects are laid -/
def offN (En : Env) : List Oper → Nat → Nat
  | o :: l, n + 1 => wd En o + offN En l n
  | _, _ => 0
def wdN (En : Env) (ops : List Oper) (q : Nat) : Nat :=
  match nthL ops q with
  | some o => wd En o
  | none => 0
/-- does it read memory? -/
def readsH : Op → Bool
  | .move _ | .assign _ | .pick .. | .extract .. | .field .. | .build .. | .binOp .. | .unOp .. | .convert .. | .fieldAddr .. | .alloc _ | .box .. | .index .. | .nilCheck _ | .makeFunc .. | .buildSlice .. | .makeSlice .. | .makeMap .. => false
  | .call ⟨.builtin .len, _, _⟩ => false
  | _ => true
/-- of list l, number j: -/
def memN (t : Nat) : List Nat → Bool
  | [] => false
  | u :: l => Nat.beq t u || memN t l
def maskS (keep : List Nat) : Nat → List (Option Value) → List (Option Value)
  | _, [] => []
  | j, v :: l => (bif memN j keep then v else none) :: maskS keep (j + 1) l
/-- which objects one may look at: some, or all -/
abbrev Fp := Option (List Nat)
def seen (F : Fp) (j : Nat) : Bool :=
  match F with
  | none => true
  | some l => memN j l
def maskH (F : Fp) (gone : List Nat) : Nat → List AObj → List AObj
  | _, [] => []
  | j, o :: l => (bif !(seen F j) || memN j gone then .gone else o) :: maskH F gone (j + 1) l
def objOf : Option Value → Fp
  | some (.pointer (some ⟨i, _, _⟩)) => some [i]
  | some (.slice (some ⟨i, _, _⟩) _ _) => some [i]
  | _ => none
/-- what an operation looks at -/
def foot (o : Oper) (S : ASt) : Fp :=
  match o.op with
  | .load _ x => objOf (S.ev x)
  | .store _ x _ => objOf (S.ev x)
  | .indexAddr _ x _ => objOf (S.ev x)
  | op => bif readsH op then none else some []
/-- the operations that one waits for, itself aside -/
def direct (o : Oper) : List Nat := (o.after.toList.filter fun e => Region.binds .any e).map (·.on)
def addN (t : Nat) (l : List Nat) : List Nat := bif memN t l then l else t :: l
def mergeN : List Nat → List Nat → List Nat
  | [], b => b
  | x :: a, b => addN x (mergeN a b)
def uniN (acc : List (List Nat)) : List Nat → List Nat
  | [] => []
  | d :: ds => addN d (mergeN ((nthL acc d).getD []) (uniN acc ds))
def depTab : List (List Nat) → List Oper → List (List Nat)
  | acc, [] => acc
  | acc, o :: l => depTab (acc ++ [uniN acc (direct o)]) l
/-- all that one waits for -/
def depN (ops : List Oper) (i : Nat) : List Nat := (nthL (depTab [] ops) i).getD []
/-- what came of an operation: not wanted; or what it yields and does -/
abbrev Rc := Option (Value × Eff)
def Rc.ids : Rc → List Nat
  | some (_, e) => effIds e
  | none => []
def Rc.val : Rc → Value
  | some (v, _) => v
  | none => undef
def Rc.heap (r : Rc) (H : List AObj) : List AObj :=
  match r with
  | some (_, e) => effH H e
  | none => H
def putO (S : List (Option Value)) (d : Option Tmp) (v : Value) : List (Option Value) :=
  match d with
  | some t => setO S t v
  | none => S
def ASt.app (S : ASt) (o : Oper) (r : Rc) : ASt := ⟨putO S.slots o.dst (Rc.val r), Rc.heap r S.heap⟩
def catN : List Nat → List Nat → List Nat
  | [], l => l
  | x :: a, l => x :: catN a l
/-- places that those which one does not wait for have turned -/
def goneFor (deps : List Nat) : Nat → List Rc → List Nat
  | _, [] => []
  | q, r :: l => bif memN q deps then goneFor deps (q + 1) l else catN (Rc.ids r) (goneFor deps (q + 1) l)
def restr (ops : List Oper) (j : Nat) (o : Oper) (rs : List Rc) (S : ASt) : ASt :=
  ⟨maskS (o.looksAt ⟨ops⟩) 0 S.slots, maskH (foot o S) (goneFor (depN ops j) 0 rs) 0 S.heap⟩
def gtest (S : ASt) (ops : List Oper) (g : Option (Nat × Bool)) (yes no : ASt → Out) : Out :=
  match g with
  | none => yes S
  | some (j, want) => (match nthL ops j with
    | some oj => (match oj.dst with
      | some t => (match nthO S.slots t with
        | some (.bool b) => tst b (bif want then yes (S.put (some t) (.bool true)) else no (S.put (some t) (.bool true))) (bif want then no (S.put (some t) (.bool false)) else yes (S.put (some t) (.bool false)))
        | some (.tuple _) => no S
        | _ => .bad)
      | none => .bad)
    | none => .bad)
/-- THE OPERATIONS IN THE TEXT'S ORDER, each on what it may lean on alone; rs: what came of those before -/
def evAny (En : Env) (ops : List Oper) (n0 : Nat) : Nat → List Oper → List Rc → List Fp → ASt → (List Rc → List Fp → ASt → Out) → Out
  | _, [], rs, fs, S, k => k rs fs S
  | j, o :: l, rs, fs, S, k => gtest S ops o.guard
      (fun S => rx En o (restr ops j o rs S) (n0 + offN En ops j) fun r => evAny En ops n0 (j + 1) l (rs ++ [some r]) (fs ++ [foot o S]) (S.app o (some r)) k)
      (fun S => evAny En ops n0 (j + 1) l (rs ++ [none]) (fs ++ [some []]) (S.app o none) k)
/-- of the places that it turns, those which are not its own -/
def outs (lo W : Nat) : List Nat → List Nat
  | [] => []
  | e :: l => bif Nat.ble lo e && Nat.blt e (lo + W) then outs lo W l else e :: outs lo W l
def apartN : List Nat → List Nat → Bool
  | [], _ => true
  | e :: l, m => !(memN e m) && apartN l m
def apartF (l : List Nat) : Fp → Bool
  | none => false
  | some m => apartN l m
/-- does one not turn what the other leans on? -/
def okPair (En : Env) (ops : List Oper) (n0 q : Nat) (oi oq : Oper) (ri rq : Rc) (fi : Fp) : Bool :=
  (match oq.dst with | some d => !(memN d (oi.looksAt ⟨ops⟩)) && (match oi.dst with | some d' => !(Nat.beq d d') | none => true) | none => true) &&
  (match outs (n0 + offN En ops q) (wdN En ops q) (Rc.ids rq) with
    | [] => true
    | l => apartF l fi && apartN l (Rc.ids ri))
def noneIn (lo W : Nat) : List Nat → Bool
  | [] => true
  | e :: l => !(Nat.ble lo e && Nat.blt e (lo + W)) && noneIn lo W l
/-- whoever turns an object that is made here waits for its maker -/
def okSet (En : Env) (ops : List Oper) (deps : List Nat) (n0 i q : Nat) (rq : Rc) : Bool := noneIn (n0 + offN En ops i) (wdN En ops i) (outs (n0 + offN En ops q) (wdN En ops q) (Rc.ids rq)) || memN i deps
def okRow (En : Env) (ops : List Oper) (n0 : Nat) (i : Nat) (oi : Oper) (ri : Rc) (fi : Fp) : Nat → List Oper → List Rc → Bool
  | q, oq :: l, rq :: lr => ((Nat.beq q i || memN q (depN ops i) || memN i (depN ops q) || okPair En ops n0 q oi oq ri rq fi) && okSet En ops (depN ops q) n0 i q rq) && okRow En ops n0 i oi ri fi (q + 1) l lr
  | _, [], [] => true
  | _, _, _ => false
def okAll (En : Env) (ops : List Oper) (n0 : Nat) (rs : List Rc) : Nat → List Oper → List Rc → List Fp → Bool
  | i, oi :: l, ri :: lr, fi :: lf => okRow En ops n0 i oi ri fi 0 ops rs && okAll En ops n0 rs (i + 1) l lr lf
  | _, [], [], [] => true
  | _, _, _, _ => false
/-- no edge runs backwards -/
def fwd : Nat → List Oper → Bool
  | _, [] => true
  | j, o :: l => (direct o).all (fun q => Nat.blt q j) && (match o.op with | .select .. => false | _ => true) && fwd (j + 1) l
/-- A REGION IN ANY ORDER -/
def evReg (En : Env) (ops : List Oper) (S : ASt) (k : ASt → Out) : Out :=
  match fwd 0 ops with
  | true => evAny En ops S.heap.length 0 ops [] [] ⟨S.slots, S.heap ++ goneL (offN En ops ops.length)⟩ fun rs fs S' => (match okAll En ops S.heap.length rs 0 ops rs fs with | true => k S' | false => .bad)
  | false => .bad
end Go.Proofs.Ytpkckgdpdnkbeaa
