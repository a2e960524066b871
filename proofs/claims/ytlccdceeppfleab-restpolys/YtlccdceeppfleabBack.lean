/- What slices.Backward hands back: an iterator that goes through a list of bytes from its last place on, for every loop body that keeps the list. -/
import Derived.RangeFuncNested
import Derived.RangeFuncBound
import Derived.RangeFuncCalls
import Derived.RangeFuncLeaves
import Derived.RangeFuncBox
import Derived.Shelf.Abstract
import Derived.Shelf.RegionOpen
import Derived.WalkKit
import Derived.OwnWalkIn
import Derived.TacticsInMore
import Derived.LoopNIn
import Derived.LoopIn
import Derived.Test.YtlccdceeppfleabDivide
namespace Go.Proofs.Ytlccdceeppfleab
open Go.ChangeShapes Go.WideShapes Go.ChangeAt Go.RowKit Go.Shelf
attribute [local go_sem] Oper.semAt_some
/-- a place of a list and a value that may stand there -/
abbrev PB (len : Nat) (Val : Nat → Nat → Prop) : Type := { p : Nat × Nat // p.1 < len ∧ Val p.1 p.2 }
/-- what has come from the last place on: places go down by one -/
def Seqd {len : Nat} {Val : Nat → Nat → Prop} (pre : List (PB len Val)) : Prop := ∀ i x, pre[i]? = some x → x.1.1 = len - 1 - i
theorem Seqd.nil {len : Nat} {Val : Nat → Nat → Prop} : Seqd (len := len) (Val := Val) [] := by intro i x h; simp at h
theorem Seqd.snoc {len : Nat} {Val : Nat → Nat → Prop} {pre : List (PB len Val)} (h : Seqd pre) {p : PB len Val} (hm : p.1.1 = len - 1 - pre.length) : Seqd (pre ++ [p]) := by
  intro i x hx
  by_cases e : i < pre.length
  · rw [List.getElem?_append_left e] at hx; exact h i x hx
  · rw [List.getElem?_append_right (by omega)] at hx
    by_cases e2 : i - pre.length = 0
    · rw [e2] at hx
      simp at hx
      subst hx
      rw [hm]; congr 1; omega
    · obtain ⟨q, hq⟩ : ∃ q, i - pre.length = q + 1 := ⟨i - pre.length - 1, by omega⟩
      rw [hq] at hx
      simp at hx
/-- the header lies in its box, and each place of the slice holds a byte that may stand there -/
def Rd (Bx b off len cap : Nat) (Val : Nat → Nat → Prop) (W : World) : Prop :=
  W.cell? ⟨Bx, 0, none⟩ = some (.slice (some ⟨b, off, none⟩) len cap) ∧ ∀ j, j < len → ∃ v : Nat, Val j v ∧ W.cell? ⟨b, off + j, none⟩ = some (.int .u8 v)
set_option maxRecDepth 100000 in
set_option maxHeartbeats 2000000 in
theorem back1_in (n : Nat) (hn : 1 ≤ n) (l Bx b off len cap : Nat) (Val : Nat → Nat → Prop) (hreach : len ≤ 140737488351232) (Kp : World → World → Prop) (hK : ∀ W W', Kp W W' → Rd Bx b off len cap Val W → Rd Bx b off len cap Val W')
    (J Jx : List (PB len Val) → World → Prop)
    (hY : ∀ pre x W, J pre W → pre.length < len → YieldAt Fence.wide (n - 1) Try.prog l #[.int .i64 (x.1.1 : Nat), .int .u8 (x.1.2 : Nat)] W fun e W' =>
      (e = .returned (.bool true) ∧ J (pre ++ [x]) W' ∧ Kp W W') ∨ (e = .returned (.bool false) ∧ Jx (pre ++ [x]) W'))
    (W : World) (hG : Rd Bx b off len cap Val W) (h0 : J [] W) :
    CallsIn Fence.wide n Try.prog 23 #[.func (.yield l) #[] #[], .pointer (some ⟨Bx, 0, none⟩)] W fun e W' => (∃ v, e = .returned v) ∧
      ((∃ ys, (ys.length = len ∧ Seqd ys) ∧ J ys W') ∨ (∃ pre, (pre.length ≤ len ∧ Seqd pre) ∧ Jx pre W')) := by
  have hG1 := hG.1
  have HK : Hid (∀ W W', Kp W W' → Rd Bx b off len cap Val W → Rd Bx b off len cap Val W') := hK
  have HG : Hid (Rd Bx b off len cap Val W) := hG
  clear hK hG
  refine callsIn_of_wp Try.func23 rfl trivial ?_ rfl
  simp only [Try.ntmps23, List.size_toArray, List.length_cons, List.length_nil, Nat.reduceAdd, Nat.reduceSub, Array.replicate_succ, Array.replicate_zero, List.push_toArray, List.append_toArray, List.nil_append, List.cons_append]
  gi_wp2
  gi_loopw [3] (fun i wr => ∃ pre : List (PB len Val), pre.length ≤ len ∧ i = .int .i64 ((len : Int) - 1 - pre.length) ∧ Hid (Seqd pre) ∧ J pre wr ∧ Hid (Rd Bx b off len cap Val wr))
    (fun i _ => (intOf i + 1).toNat)
  case atStart => exact ⟨[], Nat.zero_le _, by simp, Seqd.nil, h0, HG⟩
  case round =>
    obtain ⟨pre, hk, rfl, hS, hJs, HR⟩ := hrel
    have hbs := HR.out.1
    by_cases hlt : pre.length < len
    · obtain ⟨v, hv, hcx⟩ := HR.out.2 (len - 1 - pre.length) (by omega)
      obtain ⟨p, hp1, hp2⟩ : ∃ p : PB len Val, p.1.1 = len - 1 - pre.length ∧ p.1.2 = v := ⟨⟨(len - 1 - pre.length, v), by show len - 1 - pre.length < len; omega, hv⟩, rfl, rfl⟩
      obtain ⟨fn, tmps, assign, body, hy, hR⟩ := hY pre p wr hJs hlt
      rw [hp1, hp2] at hy
      have HS' : Hid (Seqd (pre ++ [p])) := Seqd.snoc hS.out hp1
      clear hp1 hp2 hv
      generalize hm : len - 1 - pre.length = m at *
      have e1 : (len : Int) - 1 - pre.length = m := by omega
      rw [e1]
      clear e1
      gi_wp2
      refine hR.mono ?_
      rintro e W3 (⟨rfl, hJ3, hk3⟩ | ⟨rfl, hJx3⟩)
      · gi_wp2
        go_roundw
        case rel => exact ⟨pre ++ [p], by simp; omega, by rw [show (len : Int) - 1 - ((pre ++ [p]).length : Int) = (m : Int) - 1 by simp; omega], HS', hJ3, HK.out _ _ hk3 HR.out⟩
        case measure => simp [intOf]
      · gi_wp2
        refine bodyPost_ret (results_none rfl _ _ _) rfl ?_
        exact ⟨⟨_, rfl⟩, .inr ⟨pre ++ [p], ⟨by simp; omega, HS'⟩, hJx3⟩⟩
    · have hpl : pre.length = len := by omega
      have HP : Hid (pre.length = len) := hpl
      have e1 : (len : Int) - 1 - pre.length = -1 := by omega
      rw [e1]
      clear e1 hpl
      gi_wp2
      go_end0
      exact ⟨⟨_, rfl⟩, .inl ⟨pre, ⟨HP, hS⟩, hJs⟩⟩
/-- The slice value v holds the bytes L; n: all its memory lies below block n. -/
def Bs (n : Nat) (w : World) (v : Value) (L : List Nat) : Prop :=
  (∀ x ∈ L, x < 256) ∧ L.length ≤ 140737488351232 ∧ ∃ ao cap, v = .slice ao L.length cap ∧ L.length ≤ cap ∧ (ao = none → cap = 0) ∧
    (L = [] ∨ ∃ b off, ao = some ⟨b, off, none⟩ ∧ b < n ∧ ∀ j, j < L.length → w.cell? ⟨b, off + j, none⟩ = some (.int .u8 (L[j]?.getD 0 : Nat)))
theorem Bs.below {n : Nat} {w w' : World} {v : Value} {L : List Nat} (h : Bs n w v L) (hb : Below n w w') : Bs n w' v L := by
  obtain ⟨h1, h2, ao, cap, h3, h4, h5, h6⟩ := h
  refine ⟨h1, h2, ao, cap, h3, h4, h5, ?_⟩
  rcases h6 with h6 | ⟨b, off, h7, h8, h9⟩
  · exact .inl h6
  · exact .inr ⟨b, off, h7, h8, fun j hj => (hb.cell (p := ⟨b, off + j, none⟩) h8).trans (h9 j hj)⟩
theorem Bs.mono {n m : Nat} {w : World} {v : Value} {L : List Nat} (h : Bs n w v L) (hm : n ≤ m) : Bs m w v L := by
  obtain ⟨h1, h2, ao, cap, h3, h4, h5, h6⟩ := h
  refine ⟨h1, h2, ao, cap, h3, h4, h5, ?_⟩
  rcases h6 with h6 | ⟨b, off, h7, h8, h9⟩
  · exact .inl h6
  · exact .inr ⟨b, off, h7, by omega, h9⟩
theorem Bs.nil (n : Nat) (w : World) : Bs n w (.slice none 0 0) [] := ⟨by simp, by simp, none, 0, rfl, by simp, fun _ => rfl, .inl rfl⟩
set_option maxRecDepth 100000 in
set_option maxHeartbeats 1000000 in
theorem back1_nil {α : Type} (n : Nat) (l Bx : Nat) (ao : Option Addr) (cap : Nat) (J : List α → World → Prop) (W : World) (hBs : W.cell? ⟨Bx, 0, none⟩ = some (.slice ao 0 cap)) (h0 : J [] W) :
    CallsIn Fence.wide n Try.prog 23 #[.func (.yield l) #[] #[], .pointer (some ⟨Bx, 0, none⟩)] W fun e W' => (∃ v, e = .returned v) ∧ J [] W' := by
  refine callsIn_of_wp Try.func23 rfl trivial ?_ rfl
  simp only [Try.ntmps23, List.size_toArray, List.length_cons, List.length_nil, Nat.reduceAdd, Nat.reduceSub, Array.replicate_succ, Array.replicate_zero, List.push_toArray, List.append_toArray, List.nil_append, List.cons_append]
  gi_wp2
  gi_loopw [3] (fun i wr => i = .int .i64 (-1) ∧ J [] wr) (fun _ _ => 0)
  case atStart => exact ⟨rfl, h0⟩
  case round =>
    obtain ⟨rfl, hJs⟩ := hrel
    gi_wp2
    go_end0
    exact ⟨⟨_, rfl⟩, hJs⟩
set_option maxHeartbeats 1000000 in
theorem back_in (n : Nat) (a : Option Addr) (len cap : Nat) (w : World) :
    CallsIn Fence.wide n Try.prog 15 #[.slice a len cap] w fun e w' => e = .returned (.func (.func 23) #[] #[.pointer (some ⟨w.heap.size, 0, none⟩)]) ∧ w' = w.alloc (.cells #[.slice a len cap] 22) := by
  refine callsIn_of_wp Try.func15 rfl trivial ?_ rfl
  simp only [Try.ntmps15, List.size_toArray, List.length_cons, List.length_nil, Nat.reduceAdd, Nat.reduceSub, Array.replicate_succ, Array.replicate_zero, List.push_toArray, List.append_toArray, List.nil_append, List.cons_append]
  gi_wp2
  go_ret
  exact ⟨rfl, rfl⟩
/-- the values that stand in zs -/
def AtZ (zs : List Nat) (j v : Nat) : Prop := v = zs[j]?.getD 0
/-- what a round keeps: all memory below n₀, and the box Bx -/
def KpB (n₀ Bx : Nat) (W W' : World) : Prop := Below n₀ W W' ∧ W'.cell? ⟨Bx, 0, none⟩ = W.cell? ⟨Bx, 0, none⟩
theorem KpB.trans {n₀ Bx : Nat} {A B C : World} (h : KpB n₀ Bx A B) (k : KpB n₀ Bx B C) : KpB n₀ Bx A C := ⟨h.1.trans k.1, k.2.trans h.2⟩
theorem KpB.rd {n₀ Bx b off cap : Nat} {zs : List Nat} (hb : b < n₀) {W W' : World} (h : KpB n₀ Bx W W') (hr : Rd Bx b off zs.length cap (AtZ zs) W) : Rd Bx b off zs.length cap (AtZ zs) W' :=
  ⟨h.2.trans hr.1, fun j hj => by
    obtain ⟨v, h1, h2⟩ := hr.2 j hj
    exact ⟨v, h1, (h.1.cell (p := ⟨b, off + j, none⟩) hb).trans h2⟩⟩
theorem back_stops (n : Nat) (hn : 1 ≤ n) (Bx n₀ : Nat) (sv : Value) (zs : List Nat) (w : World) (hBx : Bx < w.heap.size) (hn₀ : n₀ ≤ w.heap.size)
    (hc : w.cell? ⟨Bx, 0, none⟩ = some sv) (hI : Bs n₀ w sv zs) :
    SeqStopsK Fence.wide n Try.prog 23 #[.pointer (some ⟨Bx, 0, none⟩)] (fun x : PB zs.length (AtZ zs) => #[Value.int .i64 (x.1.1 : Nat), Value.int .u8 (x.1.2 : Nat)]) (KpB n₀ Bx) (fun ys => ys.length = zs.length ∧ Seqd ys)
      (fun pre => pre.length ≤ zs.length ∧ Seqd pre) zs.length w := fun l J Jx W hW _ _ hY h0 => by
  have hc' := (hW.cell (p := ⟨Bx, 0, none⟩) hBx).trans hc
  obtain ⟨h1, h2, ao, cap, rfl, h4, h5, h6⟩ := hI.below (hW.mono hn₀)
  rcases h6 with rfl | ⟨b, off, rfl, h8, h9⟩
  · exact (back1_nil n l Bx ao cap J W hc' h0).mono fun e W' ⟨he, hj⟩ => ⟨he, .inl ⟨[], ⟨rfl, Seqd.nil⟩, hj⟩⟩
  · exact back1_in n hn l Bx b off zs.length cap (AtZ zs) h2 (KpB n₀ Bx) (fun W W' h hr => h.rd h8 hr) J Jx hY W ⟨hc', fun j hj => ⟨_, rfl, h9 j hj⟩⟩ h0
theorem KpB.put {n₀ Bx : Nat} {w : World} (hn : n₀ ≤ w.heap.size) (hB : Bx < w.heap.size) (W : World) (l : Nat) (o o' : Obj) (hl : w.heap.size ≤ l) (h : W.heap[l]? = some o) (h1 : o.isCells = false) (h2 : o.isWalk = false) : KpB n₀ Bx W (W.putObj l o') :=
  ⟨belowK_b hn W l o o' hl h h1 h2, (belowK_b (Nat.le_refl _) W l o o' hl h h1 h2).cell (p := ⟨Bx, 0, none⟩) hB⟩
end Go.Proofs.Ytlccdceeppfleab
