/- Regions in any order: the check by masks of bits. -/
import Derived.Test.YtpkckgdpdnkbeaaZs
namespace Go.Proofs.Ytpkckgdpdnkbeaa
open Go.RowKit
/-- is number q in a set? -/
def tb (m q : Nat) : Bool := Nat.beq (Nat.land (Nat.shiftRight m q) 1) 1
theorem tb_eq (m q : Nat) : tb m q = m.testBit q := by
  unfold tb Nat.testBit
  show Nat.beq ((m >>> q) &&& 1) 1 = (1 &&& (m >>> q) != 0)
  rw [Nat.and_comm, Nat.one_and_eq_mod_two]
  rcases Nat.mod_two_eq_zero_or_one (m >>> q) with e | e <;> rw [e] <;> rfl
theorem tb_zero (q : Nat) : tb 0 q = false := by rw [tb_eq]; exact Nat.zero_testBit q
theorem tb_lor (a b q : Nat) : tb (Nat.lor a b) q = (tb a q || tb b q) := by
  rw [tb_eq, tb_eq, tb_eq]
  exact Nat.testBit_or a b q
theorem tb_one (d q : Nat) : tb (Nat.shiftLeft 1 d) q = Nat.beq q d := by
  rw [tb_eq]
  show (1 <<< d).testBit q = _
  rw [Nat.one_shiftLeft, Nat.testBit_two_pow]
  by_cases e : d = q
  · subst e; simp
  · have : Nat.beq q d = false := by
      cases h : Nat.beq q d
      · rfl
      · exact absurd (Nat.eq_of_beq_eq_true h).symm e
    rw [this]; simp [e]
theorem memN_add (q t : Nat) (l : List Nat) : memN q (addN t l) = (Nat.beq q t || memN q l) := by
  unfold addN
  cases h : memN t l with
  | false => rfl
  | true =>
    show memN q l = _
    cases hq : Nat.beq q t with
    | false => rfl
    | true => rw [Nat.eq_of_beq_eq_true hq, h]; rfl
theorem memN_merge (q : Nat) : ∀ (a b : List Nat), memN q (mergeN a b) = (memN q a || memN q b)
  | [], _ => rfl
  | x :: a, b => by
    show memN q (addN x (mergeN a b)) = ((Nat.beq q x || memN q a) || memN q b)
    rw [memN_add, memN_merge q a b, Bool.or_assoc]
def uniM (acc : List Nat) : List Nat → Nat
  | [] => 0
  | d :: ds => Nat.lor (Nat.shiftLeft 1 d) (Nat.lor ((nthL acc d).getD 0) (uniM acc ds))
def depTabM : List Nat → List Oper → List Nat
  | acc, [] => acc
  | acc, o :: l => depTabM (acc ++ [uniM acc (direct o)]) l
def Same (M : List Nat) (L : List (List Nat)) : Prop := ∀ d q, tb ((nthL M d).getD 0) q = memN q ((nthL L d).getD [])
theorem uniM_ok {M : List Nat} {L : List (List Nat)} (h : Same M L) (q : Nat) : ∀ ds, tb (uniM M ds) q = memN q (uniN L ds)
  | [] => tb_zero q
  | d :: ds => by
    show tb (Nat.lor (Nat.shiftLeft 1 d) (Nat.lor ((nthL M d).getD 0) (uniM M ds))) q = memN q (addN d (mergeN ((nthL L d).getD []) (uniN L ds)))
    rw [tb_lor, tb_lor, tb_one, memN_add, memN_merge, h d q, uniM_ok h q ds]
theorem same_add : ∀ {M : List Nat} {L : List (List Nat)} (_ : M.length = L.length) (_ : Same M L) {m : Nat} {l : List Nat} (_ : ∀ q, tb m q = memN q l), Same (M ++ [m]) (L ++ [l])
  | [], [], _, _, m, l, h => fun d q => by
    cases d with
    | zero => exact h q
    | succ d => exact tb_zero q
  | x :: M, y :: L, hl, hs, m, l, h => fun d q => by
    cases d with
    | zero => exact hs 0 q
    | succ d => exact same_add (M := M) (L := L) (Nat.succ.inj hl) (fun d q => hs (d + 1) q) h d q
  | [], _ :: _, hl, _, _, _, _ => by cases hl
  | _ :: _, [], hl, _, _, _, _ => by cases hl
theorem tab_ok : ∀ (l : List Oper) {M : List Nat} {L : List (List Nat)} (_ : M.length = L.length) (_ : Same M L), Same (depTabM M l) (depTab L l)
  | [], _, _, _, h => h
  | o :: l, M, L, hl, h => tab_ok l (M := M ++ [uniM M (direct o)]) (L := L ++ [uniN L (direct o)]) (by simp [hl]) (same_add hl h fun q => uniM_ok h q _)
theorem tab_same (ops : List Oper) : Same (depTabM [] ops) (depTab [] ops) := tab_ok ops rfl fun _ q => tb_zero q
def goneForM (m : Nat) : Nat → List Rc → List Nat
  | _, [] => []
  | q, r :: l => bif tb m q then goneForM m (q + 1) l else catN (Rc.ids r) (goneForM m (q + 1) l)
theorem goneForM_eq {m : Nat} {deps : List Nat} (h : ∀ q, tb m q = memN q deps) : ∀ (l : List Rc) (q : Nat), goneForM m q l = goneFor deps q l
  | [], _ => rfl
  | r :: l, q => by
    show (bif tb m q then goneForM m (q + 1) l else catN (Rc.ids r) (goneForM m (q + 1) l)) = (bif memN q deps then goneFor deps (q + 1) l else catN (Rc.ids r) (goneFor deps (q + 1) l))
    rw [h q, goneForM_eq h l]
def hdN : List Nat → Nat
  | [] => 0
  | x :: _ => x
def tlN : List Nat → List Nat
  | [] => []
  | _ :: l => l
theorem hd_nth (l : List Nat) : hdN l = (nthL l 0).getD 0 := by cases l <;> rfl
theorem tl_nth (l : List Nat) (k : Nat) : nthL (tlN l) k = nthL l (k + 1) := by cases l <;> rfl
/-- the masks from place j on -/
def From (ops : List Oper) (D : List Nat) (j : Nat) : Prop := ∀ k q, tb ((nthL D k).getD 0) q = memN q (depN ops (j + k))
theorem From.hd {ops : List Oper} {D : List Nat} {j : Nat} (h : From ops D j) (q : Nat) : tb (hdN D) q = memN q (depN ops j) := by rw [hd_nth]; exact h 0 q
theorem From.tl {ops : List Oper} {D : List Nat} {j : Nat} (h : From ops D j) : From ops (tlN D) (j + 1) := fun k q => by
  rw [tl_nth, h (k + 1) q, Nat.add_right_comm j 1 k, Nat.add_assoc j k 1]
def restrM (ops : List Oper) (m : Nat) (o : Oper) (rs : List Rc) (S : ASt) : ASt :=
  ⟨maskS (o.looksAt ⟨ops⟩) 0 S.slots, maskH (foot o S) (goneForM m 0 rs) 0 S.heap⟩
/-- the list laid out, then what is done with it -/
def forceSp {α : Type} : List α → (List α → Out) → Out
  | [], k => k []
  | x :: l, k => forceSp l fun l' => k (x :: l')
theorem forceSp_eq {α : Type} : ∀ (l : List α) (k : List α → Out), forceSp l k = k l
  | [], _ => rfl
  | _ :: l, k => forceSp_eq l fun l' => k (_ :: l')
def forceSt (S : ASt) (k : ASt → Out) : Out := forceSp S.slots fun sl => forceSp S.heap fun h => k ⟨sl, h⟩
theorem forceSt_eq (S : ASt) (k : ASt → Out) : forceSt S k = k S := by
  unfold forceSt
  rw [forceSp_eq, forceSp_eq]
def evAnyM (En : Env) (ops : List Oper) (n0 : Nat) : List Nat → Nat → List Oper → List Rc → List Fp → ASt → (List Rc → List Fp → ASt → Out) → Out
  | _, _, [], rs, fs, S, k => k rs fs S
  | D, j, o :: l, rs, fs, S, k => gtest S ops o.guard
      (fun S => rx En o (restrM ops (hdN D) o rs S) (n0 + offN En ops j) fun r => headX r fun r => forceSt (S.app o (some r)) fun S' => evAnyM En ops n0 (tlN D) (j + 1) l (rs ++ [some r]) (fs ++ [foot o S]) S' k)
      (fun S => evAnyM En ops n0 (tlN D) (j + 1) l (rs ++ [none]) (fs ++ [some []]) (S.app o none) k)
theorem evAnyM_eq {En : Env} {ops : List Oper} {n0 : Nat} : ∀ (l : List Oper) {D : List Nat} {j : Nat} (_ : From ops D j) (rs : List Rc) (fs : List Fp) (S : ASt) (k : List Rc → List Fp → ASt → Out), evAnyM En ops n0 D j l rs fs S k = evAny En ops n0 j l rs fs S k
  | [], _, _, _, _, _, _, _ => rfl
  | o :: l, D, j, h, rs, fs, S, k => by
    have hr : ∀ S : ASt, restrM ops (hdN D) o rs S = restr ops j o rs S := fun S => by
      unfold restrM restr
      rw [goneForM_eq fun q => h.hd q]
    have e1 : (fun S => rx En o (restrM ops (hdN D) o rs S) (n0 + offN En ops j) fun r => headX r fun r => forceSt (S.app o (some r)) fun S' => evAnyM En ops n0 (tlN D) (j + 1) l (rs ++ [some r]) (fs ++ [foot o S]) S' k)
        = (fun S => rx En o (restr ops j o rs S) (n0 + offN En ops j) fun r => evAny En ops n0 (j + 1) l (rs ++ [some r]) (fs ++ [foot o S]) (S.app o (some r)) k) := by
      funext S
      rw [hr S]
      congr 1
      funext r
      rw [headX_eq, forceSt_eq]
      exact evAnyM_eq l h.tl _ _ _ _
    have e2 : (fun S : ASt => evAnyM En ops n0 (tlN D) (j + 1) l (rs ++ [none]) (fs ++ [some []]) (S.app o none) k) = (fun S : ASt => evAny En ops n0 (j + 1) l (rs ++ [none]) (fs ++ [some []]) (S.app o none) k) := by
      funext S
      exact evAnyM_eq l h.tl _ _ _ _
    show gtest S ops o.guard _ _ = gtest S ops o.guard _ _
    rw [e1, e2]
def okSetM (En : Env) (ops : List Oper) (m : Nat) (n0 i q : Nat) (rq : Rc) : Bool := noneIn (n0 + offN En ops i) (wdN En ops i) (outs (n0 + offN En ops q) (wdN En ops q) (Rc.ids rq)) || tb m i
def okRowM (En : Env) (ops : List Oper) (n0 : Nat) (mi i : Nat) (oi : Oper) (ri : Rc) (fi : Fp) : List Nat → Nat → List Oper → List Rc → Bool
  | D, q, oq :: l, rq :: lr => ((Nat.beq q i || tb mi q || tb (hdN D) i || okPair En ops n0 q oi oq ri rq fi) && okSetM En ops (hdN D) n0 i q rq) && okRowM En ops n0 mi i oi ri fi (tlN D) (q + 1) l lr
  | _, _, [], [] => true
  | _, _, _, _ => false
theorem okRowM_eq {En : Env} {ops : List Oper} {n0 mi i : Nat} {oi : Oper} {ri : Rc} {fi : Fp} (hm : ∀ q, tb mi q = memN q (depN ops i)) : ∀ (l : List Oper) (lr : List Rc) {D : List Nat} {q : Nat} (_ : From ops D q), okRowM En ops n0 mi i oi ri fi D q l lr = okRow En ops n0 i oi ri fi q l lr
  | [], [], _, _, _ => rfl
  | [], _ :: _, _, _, _ => rfl
  | _ :: _, [], _, _, _ => rfl
  | oq :: l, rq :: lr, D, q, h => by
    show (((Nat.beq q i || tb mi q || tb (hdN D) i || okPair En ops n0 q oi oq ri rq fi) && (noneIn (n0 + offN En ops i) (wdN En ops i) (outs (n0 + offN En ops q) (wdN En ops q) (Rc.ids rq)) || tb (hdN D) i)) && okRowM En ops n0 mi i oi ri fi (tlN D) (q + 1) l lr)
      = (((Nat.beq q i || memN q (depN ops i) || memN i (depN ops q) || okPair En ops n0 q oi oq ri rq fi) && (noneIn (n0 + offN En ops i) (wdN En ops i) (outs (n0 + offN En ops q) (wdN En ops q) (Rc.ids rq)) || memN i (depN ops q))) && okRow En ops n0 i oi ri fi (q + 1) l lr)
    rw [hm q, h.hd i, okRowM_eq hm l lr h.tl]
def okAllM (En : Env) (ops : List Oper) (n0 : Nat) (D0 : List Nat) (rs : List Rc) : List Nat → Nat → List Oper → List Rc → List Fp → Bool
  | D, i, oi :: l, ri :: lr, fi :: lf => okRowM En ops n0 (hdN D) i oi ri fi D0 0 ops rs && okAllM En ops n0 D0 rs (tlN D) (i + 1) l lr lf
  | _, _, [], [], [] => true
  | _, _, _, _, _ => false
theorem okAllM_eq {En : Env} {ops : List Oper} {n0 : Nat} {D0 : List Nat} {rs : List Rc} (h0 : From ops D0 0) : ∀ (l : List Oper) (lr : List Rc) (lf : List Fp) {D : List Nat} {i : Nat} (_ : From ops D i), okAllM En ops n0 D0 rs D i l lr lf = okAll En ops n0 rs i l lr lf
  | [], [], [], _, _, _ => rfl
  | [], [], _ :: _, _, _, _ => rfl
  | [], _ :: _, _, _, _, _ => rfl
  | _ :: _, [], _, _, _, _ => rfl
  | _ :: _, _ :: _, [], _, _, _ => rfl
  | oi :: l, ri :: lr, fi :: lf, D, i, h => by
    show (okRowM En ops n0 (hdN D) i oi ri fi D0 0 ops rs && okAllM En ops n0 D0 rs (tlN D) (i + 1) l lr lf) = (okRow En ops n0 i oi ri fi 0 ops rs && okAll En ops n0 rs (i + 1) l lr lf)
    rw [okRowM_eq (fun q => h.hd q) ops rs h0, okAllM_eq h0 l lr lf h.tl]
/-- A REGION IN ANY ORDER, by masks -/
def evRegM (En : Env) (ops : List Oper) (S : ASt) (k : ASt → Out) : Out :=
  match fwd 0 ops with
  | true => evAnyM En ops S.heap.length (depTabM [] ops) 0 ops [] [] ⟨S.slots, S.heap ++ goneL (offN En ops ops.length)⟩ fun rs fs S' => (match okAllM En ops S.heap.length (depTabM [] ops) rs (depTabM [] ops) 0 ops rs fs with | true => k S' | false => .bad)
  | false => .bad
theorem evRegM_eq (En : Env) (ops : List Oper) (S : ASt) (k : ASt → Out) : evRegM En ops S k = evReg En ops S k := by
  have h0 : From ops (depTabM [] ops) 0 := fun d q => by rw [Nat.zero_add]; exact tab_same ops d q
  unfold evRegM evReg
  cases fwd 0 ops with
  | false => rfl
  | true =>
    show evAnyM _ _ _ _ _ _ _ _ _ _ = evAny _ _ _ _ _ _ _ _ _
    rw [evAnyM_eq ops h0]
    congr 1
    funext rs fs S'
    rw [okAllM_eq h0 ops rs fs h0]
    cases okAll En ops S.heap.length rs 0 ops rs fs <;> rfl
end Go.Proofs.Ytpkckgdpdnkbeaa
