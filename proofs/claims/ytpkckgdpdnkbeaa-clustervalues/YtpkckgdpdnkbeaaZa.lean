/- A symbolic run of Go code: values, memory, what they stand for. -/
import Derived.Test.YtpkckgdpdnkbeaaChecked
import Derived.Below
import Derived.Deep.Quiet
import Derived.Orders
import Derived.Laws.AppendOwn
namespace Go.Proofs.Ytpkckgdpdnkbeaa
open Go.RowKit
/-- where memory that a number names lies: nowhere (nil), or in a block, from a place on, in records of so many cells, of which there is room for so many -/
abbrev Loc := Option (Nat × Nat × Nat × Nat)
abbrev Ren := Nat → Option Loc
/-- the list function's n-th, for the kernel -/
def nthO {α : Type} : List (Option α) → Nat → Option α
  | [], _ => none
  | v :: _, 0 => v
  | _ :: l, n + 1 => nthO l n
def setO {α : Type} : List (Option α) → Nat → α → List (Option α)
  | [], _, _ => []
  | _ :: l, 0, v => some v :: l
  | x :: l, n + 1, v => x :: setO l n v
def nthL {α : Type} : List α → Nat → Option α
  | [], _ => none
  | v :: _, 0 => some v
  | _ :: l, n + 1 => nthL l n
def setL {α : Type} : List α → Nat → α → List α
  | [], _, _ => []
  | _ :: l, 0, v => v :: l
  | x :: l, n + 1, v => x :: setL l n v
theorem nthL_eq {α : Type} : ∀ (l : List α) (n : Nat), nthL l n = l[n]?
  | [], _ => by simp [nthL]
  | _ :: _, 0 => by simp [nthL]
  | _ :: l, n + 1 => by simp [nthL, nthL_eq l n]
theorem setL_eq {α : Type} : ∀ (l : List α) (n : Nat) (v : α), setL l n v = l.set n v
  | [], _, _ => by simp [setL]
  | _ :: _, 0, _ => by simp [setL]
  | _ :: l, n + 1, v => by simp [setL, setL_eq l n v]
theorem setO_len {α : Type} : ∀ (l : List (Option α)) (n : Nat) (v : α), (setO l n v).length = l.length
  | [], _, _ => rfl
  | _ :: _, 0, _ => rfl
  | _ :: l, n + 1, v => by simp [setO, setO_len l n v]
theorem nthO_set {α : Type} : ∀ (l : List (Option α)) (n m : Nat) (v : α), nthO (setO l n v) m = if n = m ∧ m < l.length then some v else nthO l m
  | [], _, _, _ => by simp [setO, nthO]
  | _ :: _, 0, 0, _ => by simp [setO, nthO]
  | _ :: _, 0, m + 1, _ => by simp [setO, nthO]
  | _ :: _, n + 1, 0, _ => by simp [setO, nthO]
  | _ :: l, n + 1, m + 1, v => by simp [setO, nthO, nthO_set l n m v]
theorem nthO_lt {α : Type} : ∀ (l : List (Option α)) (n : Nat) {v : α}, nthO l n = some v → n < l.length
  | [], _, _, h => by simp [nthO] at h
  | _ :: _, 0, _, _ => by simp
  | _ :: l, n + 1, _, h => by have := nthO_lt l n h; simp; omega
/-- The value v, whose blocks are numbers of ours, stands for the value u. -/
inductive Rn (ρ : Ren) : Value → Value → Prop
  | bool (b : Bool) : Rn ρ (.bool b) (.bool b)
  | int (k : IntKind) (n : Int) : Rn ρ (.int k n) (.int k n)
  | string (s : ByteArray) : Rn ρ (.string s) (.string s)
  | ptr0 : Rn ρ (.pointer none) (.pointer none)
  | ptr {i o b s : Nat} {z : Nat × Nat} (h : ρ i = some (some (b, s, z))) : Rn ρ (.pointer (some ⟨i, o, none⟩)) (.pointer (some ⟨b, s + o, none⟩))
  | ptrR {i o r b s : Nat} {z : Nat × Nat} (h : ρ i = some (some (b, s, z))) : Rn ρ (.pointer (some ⟨i, o, some r⟩)) (.pointer (some ⟨b, s + r * z.1 + o, none⟩))
  | slice0 (l c : Nat) (hlc : l ≤ c) : Rn ρ (.slice none l c) (.slice none l c)
  | sliceE {a a' : Option Addr} {l c : Nat} (hl : l = 0) (hc : c = 0) : Rn ρ (.slice a l c) (.slice a' l c)
  | slice {i o b s : Nat} {z : Nat × Nat} (l c : Nat) (h : ρ i = some (some (b, s, z))) (hlc : l ≤ c) : Rn ρ (.slice (some ⟨i, o, none⟩) l c) (.slice (some ⟨b, s + o, none⟩) l c)
  | sliceR {i o r b s : Nat} {z : Nat × Nat} (l c c' : Nat) (h : ρ i = some (some (b, s, z))) (hlc : l ≤ c) (hcc : c ≤ c') (hq : r + c' = z.2) : Rn ρ (.slice (some ⟨i, o, some r⟩) l c) (.slice (some ⟨b, s + r * z.1 + o, none⟩) l c')
  | map0 : Rn ρ (.map none) (.map none)
  | map {i b : Nat} (h : ρ i = some (some (b, 0, 0, 0))) : Rn ρ (.map (some i)) (.map (some b))
  | nilIface : Rn ρ .nilIface .nilIface
  | nilFunc : Rn ρ .nilFunc .nilFunc
  | agg {cs us : List Value} (hl : cs.length = us.length) (h : ∀ (i : Nat) v u, cs[i]? = some v → us[i]? = some u → Rn ρ v u) : Rn ρ (.agg ⟨cs⟩) (.agg ⟨us⟩)
  | tuple {cs us : List Value} (hl : cs.length = us.length) (h : ∀ (i : Nat) v u, cs[i]? = some v → us[i]? = some u → Rn ρ v u) : Rn ρ (.tuple ⟨cs⟩) (.tuple ⟨us⟩)
  | func (fn : Fn) {f1 g1 f2 g2 : List Value} (hl : f1.length = g1.length) (h : ∀ (i : Nat) v u, f1[i]? = some v → g1[i]? = some u → Rn ρ v u) (hl2 : f2.length = g2.length) (h2 : ∀ (i : Nat) v u, f2[i]? = some v → g2[i]? = some u → Rn ρ v u) : Rn ρ (.func fn ⟨f1⟩ ⟨f2⟩) (.func fn ⟨g1⟩ ⟨g2⟩)
  | iface (t : TypeId) {v u : Value} (h : Rn ρ v u) : Rn ρ (.iface t v) (.iface t u)
/-- lists of values -/
def RL (ρ : Ren) (cs us : List Value) : Prop := cs.length = us.length ∧ ∀ (i : Nat) v u, cs[i]? = some v → us[i]? = some u → Rn ρ v u
def RLe (ρ ρ' : Ren) : Prop := ∀ i l, ρ i = some l → ρ' i = some l
theorem RLe.refl (ρ : Ren) : RLe ρ ρ := fun _ _ h => h
theorem RLe.trans {a b c : Ren} (h : RLe a b) (k : RLe b c) : RLe a c := fun i l e => k i l (h i l e)
theorem Rn.mono {ρ ρ' : Ren} (hle : RLe ρ ρ') {v u : Value} (h : Rn ρ v u) : Rn ρ' v u := by
  induction h with
  | bool b => exact .bool b
  | int k n => exact .int k n
  | string s => exact .string s
  | ptr0 => exact .ptr0
  | ptr h => exact .ptr (hle _ _ h)
  | ptrR h => exact .ptrR (hle _ _ h)
  | slice0 l c hlc => exact .slice0 l c hlc
  | sliceE hl hc => exact .sliceE hl hc
  | slice l c h hlc => exact .slice l c (hle _ _ h) hlc
  | sliceR l c c' h hlc hcc hq => exact .sliceR l c c' (hle _ _ h) hlc hcc hq
  | map0 => exact .map0
  | map h => exact .map (hle _ _ h)
  | nilIface => exact .nilIface
  | nilFunc => exact .nilFunc
  | agg hl _ ih => exact .agg hl ih
  | tuple hl _ ih => exact .tuple hl ih
  | func fn hl _ hl2 _ ih ih2 => exact .func fn hl ih hl2 ih2
  | iface t _ ih => exact .iface t ih
theorem RL.mono {ρ ρ' : Ren} (hle : RLe ρ ρ') {cs us : List Value} (h : RL ρ cs us) : RL ρ' cs us := ⟨h.1, fun i v u a b => (h.2 i v u a b).mono hle⟩
theorem RL.nil (ρ : Ren) : RL ρ [] [] := ⟨rfl, fun i v u h => by simp at h⟩
theorem RL.cons {ρ : Ren} {v u : Value} {cs us : List Value} (h : Rn ρ v u) (hl : RL ρ cs us) : RL ρ (v :: cs) (u :: us) := by
  refine ⟨by simp [hl.1], fun i x y hx hy => ?_⟩
  cases i with
  | zero => simp at hx hy; subst hx; subst hy; exact h
  | succ i => exact hl.2 i x y (by simpa using hx) (by simpa using hy)
theorem RL.cons_inv {ρ : Ren} {v : Value} {cs us : List Value} (h : RL ρ (v :: cs) us) : ∃ u us', us = u :: us' ∧ Rn ρ v u ∧ RL ρ cs us' := by
  cases us with
  | nil => have := h.1; simp at this
  | cons u us' => exact ⟨u, us', rfl, h.2 0 v u (by simp) (by simp), by have := h.1; simpa using this, fun i x y hx hy => h.2 (i + 1) x y (by simpa using hx) (by simpa using hy)⟩
theorem RL.nil_inv {ρ : Ren} {us : List Value} (h : RL ρ [] us) : us = [] := by
  cases us with
  | nil => rfl
  | cons u us' => have := h.1; simp at this
theorem RL.get {ρ : Ren} {cs us : List Value} (h : RL ρ cs us) {i : Nat} {v : Value} (hv : cs[i]? = some v) : ∃ u, us[i]? = some u ∧ Rn ρ v u := by
  have hi : i < us.length := by rw [← h.1]; exact (List.getElem?_eq_some_iff.1 hv).1
  exact ⟨us[i], List.getElem?_eq_getElem hi, h.2 i v _ hv (List.getElem?_eq_getElem hi)⟩
theorem RL.set {ρ : Ren} {cs us : List Value} (h : RL ρ cs us) (i : Nat) {v u : Value} (hv : Rn ρ v u) : RL ρ (cs.set i v) (us.set i u) := by
  refine ⟨by simp [h.1], fun j x y hx hy => ?_⟩
  rw [List.getElem?_set] at hx hy
  by_cases hij : i = j
  · subst hij
    rw [if_pos rfl] at hx hy
    split at hx
    · split at hy
      · cases hx; cases hy; exact hv
      · cases hy
    · cases hx
  · rw [if_neg hij] at hx hy
    exact h.2 j x y hx hy
theorem RL.append {ρ : Ren} {a b c d : List Value} (h : RL ρ a b) (k : RL ρ c d) : RL ρ (a ++ c) (b ++ d) := by
  refine ⟨by simp [h.1, k.1], fun i x y hx hy => ?_⟩
  rw [List.getElem?_append] at hx hy
  rw [h.1] at hx
  split at hx
  · rename_i hlt
    rw [if_pos hlt] at hy
    exact h.2 i x y hx hy
  · rename_i hlt
    rw [if_neg hlt] at hy
    exact k.2 _ x y hx hy
theorem Rn.aggRL {ρ : Ren} {cs us : List Value} (h : RL ρ cs us) : Rn ρ (.agg ⟨cs⟩) (.agg ⟨us⟩) := .agg h.1 h.2
theorem Rn.tupRL {ρ : Ren} {cs us : List Value} (h : RL ρ cs us) : Rn ρ (.tuple ⟨cs⟩) (.tuple ⟨us⟩) := .tuple h.1 h.2
/-- no block of ours is named -/
def cleanS : Value → Bool
  | .bool _ | .int _ _ | .string _ | .pointer none | .map none | .nilIface | .nilFunc => true
  | _ => false
def allB (f : Value → Bool) : List Value → Bool
  | [] => true
  | v :: l => f v && allB f l
def clean1 : Value → Bool
  | .agg ⟨cs⟩ => allB cleanS cs
  | v => cleanS v
def clean : Value → Bool
  | .agg ⟨cs⟩ => allB cleanS cs
  | .tuple ⟨cs⟩ => allB clean1 cs
  | .func _ ⟨f⟩ ⟨c⟩ => allB cleanS f && allB cleanS c
  | .iface _ v => clean1 v
  | v => cleanS v
theorem allB_at {f : Value → Bool} : ∀ {l : List Value}, allB f l = true → ∀ (i : Nat) v, l[i]? = some v → f v = true
  | [], _, i, v, h => by simp at h
  | x :: l, h, 0, v, hv => by simp [allB] at h; simp at hv; rw [← hv]; exact h.1
  | x :: l, h, i + 1, v, hv => by simp [allB] at h; exact allB_at h.2 i v (by simpa using hv)
theorem cleanS_Rn {ρ : Ren} {v u : Value} (h : cleanS v = true) : Rn ρ v u ↔ u = v := by
  constructor
  · intro hr
    cases hr <;> first | rfl | simp [cleanS] at h
  · rintro rfl
    cases u <;> simp [cleanS] at h
    case pointer a => cases a <;> simp at h; exact .ptr0
    case map a => cases a <;> simp at h; exact .map0
    all_goals constructor
theorem RL_clean {ρ : Ren} {f : Value → Bool} (hf : ∀ v u, f v = true → (Rn ρ v u ↔ u = v)) {cs us : List Value} (h : allB f cs = true) : RL ρ cs us ↔ us = cs := by
  constructor
  · intro hr
    refine List.ext_getElem? fun i => ?_
    rcases Nat.lt_or_ge i cs.length with hi | hi
    · have h1 := List.getElem?_eq_getElem hi
      obtain ⟨u, hu, hr'⟩ := hr.get h1
      rw [hu, h1, (hf _ _ (allB_at h i _ h1)).1 hr']
    · rw [List.getElem?_eq_none (by rw [← hr.1]; exact hi), List.getElem?_eq_none hi]
  · rintro rfl
    exact ⟨rfl, fun i v u hv hu => (hf _ _ (allB_at h i _ hv)).2 (Option.some.inj (hu.symm.trans hv))⟩
theorem clean1_Rn {ρ : Ren} {v u : Value} (h : clean1 v = true) : Rn ρ v u ↔ u = v := by
  by_cases ha : ∃ cs, v = .agg cs
  · obtain ⟨⟨cs⟩, rfl⟩ := ha
    have := @RL_clean ρ cleanS (fun v u h => cleanS_Rn h) cs
    constructor
    · intro hr
      cases hr with
      | agg hl hh => rw [(this h).1 ⟨hl, hh⟩]
    · rintro rfl
      exact Rn.aggRL ((this h).2 rfl)
  · refine cleanS_Rn ?_
    cases v <;> first | exact h | exact absurd ⟨_, rfl⟩ ha
theorem clean_Rn {ρ : Ren} {v u : Value} (h : clean v = true) : Rn ρ v u ↔ u = v := by
  by_cases ha : ∃ cs, v = .tuple cs
  · obtain ⟨⟨cs⟩, rfl⟩ := ha
    have := @RL_clean ρ clean1 (fun v u h => clean1_Rn h) cs
    constructor
    · intro hr
      cases hr with
      | tuple hl hh => rw [(this h).1 ⟨hl, hh⟩]
    · rintro rfl
      exact Rn.tupRL ((this h).2 rfl)
  by_cases hb : ∃ fn f c, v = .func fn f c
  · obtain ⟨fn, ⟨f⟩, ⟨c⟩, rfl⟩ := hb
    have t := fun cs us => @RL_clean ρ cleanS (fun v u h => cleanS_Rn h) cs us
    simp only [clean, Bool.and_eq_true] at h
    constructor
    · intro hr
      cases hr with
      | func _ hl hh hl2 hh2 => rw [(t _ _ h.1).1 ⟨hl, hh⟩, (t _ _ h.2).1 ⟨hl2, hh2⟩]
    · rintro rfl
      have r1 := (t f f h.1).2 rfl
      have r2 := (t c c h.2).2 rfl
      exact .func fn r1.1 r1.2 r2.1 r2.2
  by_cases hi : ∃ t x, v = .iface t x
  · obtain ⟨t, x, rfl⟩ := hi
    constructor
    · intro hr
      cases hr with
      | iface _ hx => rw [(clean1_Rn h).1 hx]
    · rintro rfl
      exact .iface t ((clean1_Rn h).2 rfl)
  · refine clean1_Rn ?_
    cases v <;> first | exact h | exact absurd ⟨_, rfl⟩ ha | exact absurd ⟨_, _, _, rfl⟩ hb | exact absurd ⟨_, _, rfl⟩ hi
/-- a value that stands for itself -/
def selfS : Value → Bool
  | .bool _ | .int _ _ | .string _ | .pointer none | .map none | .nilIface | .nilFunc => true
  | .slice none l c => Nat.ble l c
  | _ => false
def self1 : Value → Bool
  | .agg ⟨cs⟩ => allB selfS cs
  | v => selfS v
def selfB : Value → Bool
  | .agg ⟨cs⟩ => allB selfS cs
  | .tuple ⟨cs⟩ => allB self1 cs
  | .func _ ⟨f⟩ ⟨c⟩ => allB selfS f && allB selfS c
  | .iface _ v => self1 v
  | v => selfS v
theorem selfS_Rn {ρ : Ren} {v : Value} (h : selfS v = true) : Rn ρ v v := by
  cases v <;> simp [selfS] at h
  case pointer a => cases a <;> simp at h; exact .ptr0
  case map a => cases a <;> simp at h; exact .map0
  case slice a l c => cases a <;> simp at h; exact .slice0 _ _ h
  all_goals constructor
theorem RL_self {ρ : Ren} {f : Value → Bool} (hf : ∀ v, f v = true → Rn ρ v v) {cs : List Value} (h : allB f cs = true) : RL ρ cs cs :=
  ⟨rfl, fun i v u hv hu => by cases hv.symm.trans hu; exact hf _ (allB_at h i _ hv)⟩
theorem self1_Rn {ρ : Ren} {v : Value} (h : self1 v = true) : Rn ρ v v := by
  by_cases ha : ∃ cs, v = .agg cs
  · obtain ⟨⟨cs⟩, rfl⟩ := ha
    exact Rn.aggRL (RL_self (fun v h => selfS_Rn h) h)
  · refine selfS_Rn ?_
    cases v <;> first | exact h | exact absurd ⟨_, rfl⟩ ha
theorem selfB_Rn {ρ : Ren} {v : Value} (h : selfB v = true) : Rn ρ v v := by
  by_cases ha : ∃ cs, v = .tuple cs
  · obtain ⟨⟨cs⟩, rfl⟩ := ha
    exact Rn.tupRL (RL_self (fun v h => self1_Rn h) h)
  by_cases hb : ∃ fn f c, v = .func fn f c
  · obtain ⟨fn, ⟨f⟩, ⟨c⟩, rfl⟩ := hb
    simp only [selfB, Bool.and_eq_true] at h
    have r1 := RL_self (ρ := ρ) (fun v h => selfS_Rn h) h.1
    have r2 := RL_self (ρ := ρ) (fun v h => selfS_Rn h) h.2
    exact .func fn r1.1 r1.2 r2.1 r2.2
  by_cases hi : ∃ t x, v = .iface t x
  · obtain ⟨t, x, rfl⟩ := hi
    exact .iface t (self1_Rn h)
  · refine self1_Rn ?_
    cases v <;> first | exact h | exact absurd ⟨_, rfl⟩ ha | exact absurd ⟨_, _, _, rfl⟩ hb | exact absurd ⟨_, _, rfl⟩ hi
/-- kinds of cells -/
inductive LK where
  | kInt (k : IntKind)
  | kStr
  | kBool
def intV : Value → Int | .int _ n => n | _ => 0
def strV : Value → ByteArray | .string s => s | _ => ⟨#[]⟩
def boolV : Value → Bool | .bool b => b | _ => false
def hdV : List Value → Value | v :: _ => v | [] => undef
def tlV : List Value → List Value | _ :: l => l | [] => []
/-- cells of these kinds -/
def norm : List LK → List Value → List Value
  | [], _ => []
  | .kInt k :: ks, vs => .int k (intV (hdV vs)) :: norm ks (tlV vs)
  | .kStr :: ks, vs => .string (strV (hdV vs)) :: norm ks (tlV vs)
  | .kBool :: ks, vs => .bool (boolV (hdV vs)) :: norm ks (tlV vs)
theorem norm_len : ∀ (sh : List LK) vs, (norm sh vs).length = sh.length
  | [], _ => rfl
  | .kInt _ :: ks, vs => by simp [norm, norm_len ks]
  | .kStr :: ks, vs => by simp [norm, norm_len ks]
  | .kBool :: ks, vs => by simp [norm, norm_len ks]
theorem norm_clean : ∀ (sh : List LK) vs, allB cleanS (norm sh vs) = true
  | [], _ => rfl
  | .kInt _ :: ks, vs => norm_clean ks (tlV vs)
  | .kStr :: ks, vs => norm_clean ks (tlV vs)
  | .kBool :: ks, vs => norm_clean ks (tlV vs)
theorem norm_RL {ρ : Ren} {sh : List LK} {vs us : List Value} : RL ρ (norm sh vs) us ↔ us = norm sh vs := RL_clean (fun _ _ h => cleanS_Rn h) (norm_clean sh vs)
def LK.same : LK → LK → Bool
  | .kInt .i64, .kInt .i64 => true
  | .kInt .u64, .kInt .u64 => true
  | .kInt .u8, .kInt .u8 => true
  | .kStr, .kStr => true
  | .kBool, .kBool => true
  | _, _ => false
theorem LK.same_eq {a b : LK} (h : a.same b = true) : a = b := by
  cases a with
  | kInt k => cases b with
    | kInt l => cases k <;> cases l <;> first | rfl | exact Bool.noConfusion h
    | kStr => cases k <;> exact Bool.noConfusion h
    | kBool => cases k <;> exact Bool.noConfusion h
  | kStr => cases b <;> first | rfl | exact Bool.noConfusion h
  | kBool => cases b <;> first | rfl | exact Bool.noConfusion h
def shEq : List LK → List LK → Bool
  | [], [] => true
  | a :: l, b :: m => a.same b && shEq l m
  | _, _ => false
theorem shEq_eq : ∀ {a b : List LK}, shEq a b = true → a = b
  | [], [], _ => rfl
  | a :: l, b :: m, h => by
    simp only [shEq, Bool.and_eq_true] at h
    rw [LK.same_eq h.1, shEq_eq h.2]
  | [], _ :: _, h => by cases h
  | _ :: _, [], h => by cases h
/-- a run that asks the program alone -/
def pureRun {α : Type} (P : Program) : Sem α → Option α
  | .pure a => some a
  | .program k => pureRun P (k P)
  | .mark _ k => pureRun P k
  | _ => none
theorem pureRun_run {α : Type} {P : Program} : ∀ {s : Sem α} {a : α}, pureRun P s = some a → ∀ w, s.run P w = .ok a w
  | .pure _, _, h, w => by cases h; rfl
  | .program k, _, h, w => by unfold pureRun at h; exact pureRun_run h w
  | .mark _ k, _, h, w => by unfold pureRun at h; exact pureRun_run h w
  | .load .., _, h, w | .store .., _, h, w | .new .., _, h, w | .shape .., _, h, w | .freeze .., _, h, w | .frozen .., _, h, w | .getObj .., _, h, w | .setObj .., _, h, w | .choose .., _, h, w | .sys .., _, h, w | .halt .., _, h, w => by simp [pureRun] at h
/-- an object of memory: a block of ours, cell by cell; records of so many cells that are only read; one of which nothing is said -/
inductive AObj where
  | cells (T : TypeId) (cs : List Value)
  | recs (sh : List LK) (n : Nat) (g : Nat → List Value)
  | gone
  /-- a list of ours: its first n elements -/
  | row (e : TypeId) (sh : List LK) (n : Nat) (g : Nat → List Value)
  /-- a map of ours -/
  | mp (es : List MapEntry) (clock : Nat)
def AObj.own : AObj → Bool
  | .cells .. | .row .. | .mp .. => true
  | _ => false
/-- it names no object -/
def flatO : AObj → Bool
  | .cells .. => false
  | _ => true
def allO (f : AObj → Bool) : List AObj → Bool
  | [] => true
  | o :: l => f o && allO f l
theorem allO_at {f : AObj → Bool} : ∀ {l : List AObj}, allO f l = true → ∀ (i : Nat) o, l[i]? = some o → f o = true
  | [], _, i, v, h => by simp at h
  | x :: l, h, 0, v, hv => by simp [allO] at h; simp at hv; rw [← hv]; exact h.1
  | x :: l, h, i + 1, v, hv => by simp [allO] at h; exact allO_at h.2 i v (by simpa using hv)
/-- what is known of the run -/
structure ASt where
  slots : List (Option Value)
  heap : List AObj
def ASt.put (S : ASt) (d : Option Tmp) (v : Value) : ASt :=
  match d with
  | some t => ⟨setO S.slots t v, S.heap⟩
  | none => S
def ASt.ev (S : ASt) : Operand → Option Value
  | .tmp t => nthO S.slots t
  | .const v => bif selfB v then some v else none
  | .global _ => none
  | .func f => some (.func (.func f) #[] #[])
/-- how a piece of code is left -/
inductive AE where
  | normal
  | exit (n : Nat)
  | ret
/-- how a run may end -/
inductive Out where
  | done (e : AE) (S : ASt)
  | bad
  | all (f : Nat → Out)
  | ask (p : Prop) (o : Out)
abbrev Lf := AE → ASt → Prop
def Out.sat (Φ : Lf) : Out → Prop
  | .done e S => Φ e S
  | .bad => False
  | .all f => ∀ n, (f n).sat Φ
  | .ask p o => p ∧ o.sat Φ
/-- a test -/
def tst (b : Bool) (t f : Out) : Out := match b with | true => t | false => f
/-- cells as a world has them -/
def Lies (w : World) (b o : Nat) (us : List Value) : Prop := ∀ (j : Nat) u, us[j]? = some u → w.cell? ⟨b, o + j, none⟩ = some u
/-- a list of ours as a value -/
def rowV (l : Loc) (n : Nat) : Value := match l with | none => .slice none 0 0 | some (b, _, _, q) => .slice (some ⟨b, 0, none⟩) n q
def flat (sh : List LK) (n : Nat) (g : Nat → List Value) : List Value := (List.range n).flatMap fun k => norm sh (g k)
theorem ownsRow_kept {w w' : World} {base : Nat} {e : TypeId} {size : Nat} {v : Value} {n : Nat} {xs : List Value} (h : w.ownsRow base e size v n xs) (hk : ∀ b, v.ownBlock = some b → w'.heap[b]? = w.heap[b]?) : w'.ownsRow base e size v n xs := by
  refine ⟨h.1, ?_⟩
  rcases h.2 with hn | ⟨g, cap, cur, rfl, hb, hg, rest⟩
  · exact .inl hn
  · exact .inr ⟨g, cap, cur, rfl, hb, (hk g rfl).trans hg, rest⟩
theorem rowV_block {l : Loc} {n b : Nat} (h : (rowV l n).ownBlock = some b) : ∃ s z, l = some (b, s, z) := by
  unfold rowV at h
  split at h
  · cases h
  · cases h; exact ⟨_, _, rfl⟩
def entC (e : MapEntry) : Bool := clean e.key && clean e.val
def allE : List MapEntry → Bool
  | [] => true
  | e :: l => entC e && allE l
/-- What a memory's object says of the world. -/
def OC (base : Nat) (ρ : Ren) (w : World) (i : Nat) : AObj → Prop
  | .cells T cs => ∃ b us, ρ i = some (some (b, 0, 0, 0)) ∧ base ≤ b ∧ RL ρ cs us ∧ w.heap[b]? = some (.cells ⟨us⟩ T)
  | .recs sh n g => ∃ l, ρ i = some l ∧ (∀ b s z, l = some (b, s, z) → z.1 = sh.length) ∧ (n = 0 ∨ ∃ b s q, l = some (b, s, sh.length, q) ∧ ∀ k, k < n → Lies w b (s + k * sh.length) (norm sh (g k)))
  | .gone => True
  | .row e sh n g => ∃ l, ρ i = some l ∧ (∀ b s z, l = some (b, s, z) → s = 0 ∧ z.1 = sh.length) ∧ w.ownsRow base e sh.length (rowV l n) n (flat sh n g)
  | .mp es clock => ∃ b, ρ i = some (some (b, 0, 0, 0)) ∧ base ≤ b ∧ allE es = true ∧ w.heap[b]? = some (.map ⟨es⟩ clock)
structure HC (base : Nat) (w0 : World) (ρ : Ren) (H : List AObj) (w : World) : Prop where
  below : Below base w0 w
  floor : base ≤ w.heap.size
  obj : ∀ (i : Nat) o, H[i]? = some o → OC base ρ w i o
  dom : ∀ i l, ρ i = some l → i < H.length
  lt : ∀ i b s z, ρ i = some (some (b, s, z)) → b < w.heap.size
  apart : ∀ (i j : Nat) o1 b s z c s' z' o, H[i]? = some o1 → o1.own = true → H[j]? = some o → (∀ _ : o = .gone, False) → ρ i = some (some (b, s, z)) → ρ j = some (some (c, s', z')) → i ≠ j → b ≠ c
/-- What the slots say. -/
def SC (ρ : Ren) (S : List (Option Value)) (a : Act) : Prop := a.defers = [] ∧ a.tmps.size = S.length ∧ ∀ t v, nthO S t = some v → ∃ u, a.tmps[t]? = some u ∧ Rn ρ v u
theorem OC.kept {base : Nat} {ρ : Ren} {w w' : World} {i : Nat} {o : AObj} (h : OC base ρ w i o) (hk : ∀ b s z, ρ i = some (some (b, s, z)) → w'.heap[b]? = w.heap[b]?) : OC base ρ w' i o := by
  cases o with
  | gone => trivial
  | cells T cs =>
    obtain ⟨b, us, h1, h2, h3, h4⟩ := h
    exact ⟨b, us, h1, h2, h3, (hk b 0 (0, 0) h1).trans h4⟩
  | recs sh m f =>
    obtain ⟨l, h1, h0, h2⟩ := h
    refine ⟨l, h1, h0, ?_⟩
    rcases h2 with h2 | ⟨b, s, q, rfl, h2⟩
    · exact .inl h2
    · refine .inr ⟨b, s, q, rfl, fun j hj p u hu => ?_⟩
      rw [← h2 j hj p u hu]
      exact World.cell?_of_block (w := w) (hk b s _ h1)
  | row e sh m f =>
    obtain ⟨l, h1, h0, h2⟩ := h
    refine ⟨l, h1, h0, ownsRow_kept h2 fun b hb => ?_⟩
    obtain ⟨s, z, rfl⟩ := rowV_block hb
    exact hk b s z h1
  | mp es clock =>
    obtain ⟨b, h1, h2, h3, h4⟩ := h
    exact ⟨b, h1, h2, h3, (hk b 0 (0, 0) h1).trans h4⟩
theorem OC.mono {base : Nat} {ρ ρ' : Ren} {w : World} {i : Nat} {o : AObj} (hle : RLe ρ ρ') (h : OC base ρ w i o) : OC base ρ' w i o := by
  cases o with
  | cells T cs =>
    obtain ⟨b, us, h1, h2, h3, h4⟩ := h
    exact ⟨b, us, hle _ _ h1, h2, h3.mono hle, h4⟩
  | recs sh m f =>
    obtain ⟨l, h1, h2⟩ := h
    exact ⟨l, hle _ _ h1, h2⟩
  | gone => trivial
  | row e sh m f =>
    obtain ⟨l, h1, h2⟩ := h
    exact ⟨l, hle _ _ h1, h2⟩
  | mp es clock =>
    obtain ⟨b, h1, h2⟩ := h
    exact ⟨b, hle _ _ h1, h2⟩
theorem Lies.below {n : Nat} {w w' : World} {b o : Nat} {us : List Value} (h : Lies w b o us) (hb : Below n w w') (hn : b < n) : Lies w' b o us := fun j u e => (hb.cell (p := ⟨b, o + j, none⟩) hn).trans (h j u e)
theorem OC.below {base n : Nat} {ρ : Ren} {w w' : World} {i : Nat} {o : AObj} (h : OC base ρ w i o) (hb : Below n w w') (hn : ∀ b s z, ρ i = some (some (b, s, z)) → b < n) : OC base ρ w' i o := h.kept fun b s z e => hb.block b (hn b s z e)
theorem HC.step {base : Nat} {w0 w w' : World} {ρ : Ren} {H : List AObj} (h : HC base w0 ρ H w) (hb : Below w.heap.size w w') : HC base w0 ρ H w' :=
  ⟨h.below.trans (hb.mono h.floor), Nat.le_trans h.floor hb.size, fun i o ho => (h.obj i o ho).below hb (fun b s z e => h.lt i b s z e), h.dom, fun i b s z e => Nat.lt_of_lt_of_le (h.lt i b s z e) hb.size, h.apart⟩
theorem SC.mono {ρ ρ' : Ren} (hle : RLe ρ ρ') {S : List (Option Value)} {a : Act} (h : SC ρ S a) : SC ρ' S a :=
  ⟨h.1, h.2.1, fun t v e => let ⟨u, h1, h2⟩ := h.2.2 t v e; ⟨u, h1, h2.mono hle⟩⟩
theorem SC.put {ρ : Ren} {S : ASt} {a : Act} (h : SC ρ S.slots a) (d : Option Tmp) {v u : Value} (hv : Rn ρ v u) : SC ρ (S.put d v).slots (a.put d u) := by
  cases d with
  | none => exact h
  | some t =>
    refine ⟨h.1, by simp [Act.put, ASt.put, setO_len, h.2.1], fun t' v' e => ?_⟩
    simp only [ASt.put, nthO_set] at e
    simp only [Act.put]
    by_cases hc : t = t' ∧ t' < S.slots.length
    · rw [if_pos hc] at e
      obtain ⟨rfl, hl⟩ := hc
      cases e
      exact ⟨u, by rw [Array.getElem?_setIfInBounds_self]; simp [h.2.1, hl], hv⟩
    · rw [if_neg hc] at e
      obtain ⟨u', h1, h2⟩ := h.2.2 t' v' e
      have : t ≠ t' := fun e' => hc ⟨e', nthO_lt _ _ e⟩
      exact ⟨u', by rw [Array.getElem?_setIfInBounds_ne this]; exact h1, h2⟩
theorem ASt.put_heap (S : ASt) (d : Option Tmp) (v : Value) : (S.put d v).heap = S.heap := by cases d <;> rfl
theorem SC.ev {ρ : Ren} {S : ASt} {a : Act} (h : SC ρ S.slots a) {x : Operand} {v : Value} (hv : S.ev x = some v) : Rn ρ v (a.eval x) := by
  cases x with
  | tmp t =>
    obtain ⟨u, h1, h2⟩ := h.2.2 t v hv
    have : a.eval (.tmp t) = u := by
      show a.tmps.getD t undef = u
      rw [Array.getD_eq_getD_getElem?, h1]
      rfl
    rw [this]
    exact h2
  | const c =>
    simp only [ASt.ev] at hv
    cases hc : selfB c with
    | true => rw [hc] at hv; cases hv; exact selfB_Rn hc
    | false => rw [hc] at hv; cases hv
  | global g => cases hv
  | func f => cases hv; exact (clean_Rn (by rfl)).2 rfl
end Go.Proofs.Ytpkckgdpdnkbeaa
