/- What ones and fault of package word answer: the places of a word's bits that are 1, and their xor, for every word. -/
import Derived.RangeFuncNested
import Derived.RangeFuncBound
import Derived.RangeFuncCalls
import Derived.RangeFuncLeaves
import Derived.RangeFuncBox
import Derived.Shelf.Abstract
import Derived.Shelf.RegionOpen
import Derived.WalkKit
import Derived.OwnWalkIn
import Derived.TacticsInMore
import Derived.LoopNIn
import Derived.LoopIn
import Derived.Test.YtiiickinlklelaaDoorBo
namespace Go.Proofs.YtiiickinlklelaaDoor
open Go.ChangeShapes Go.WideShapes Go.ChangeAt Go.RowKit Go.Shelf
attribute [local go_sem] Oper.semAt_some
/-- the places of the bits that are 1, the lowest one first -/
def obl (f : Nat) : Nat → List Nat := Nat.rec (fun _ => []) (fun _ ih r => cond (Nat.beq r 0) [] (Wd.tz r :: ih (Nat.land r (Nat.sub r 1)))) f
theorem beqz {r : Nat} (h : r ≠ 0) : Nat.beq r 0 = false := by
  cases r with
  | zero => exact absurd rfl h
  | succ r => rfl
theorem obl_zero (f : Nat) : obl f 0 = [] := by cases f <;> rfl
theorem obl_next (f r : Nat) (h : r ≠ 0) : obl (f + 1) r = Wd.tz r :: obl f (r &&& (r - 1)) := by
  show cond (Nat.beq r 0) [] (Wd.tz r :: obl f (r &&& (r - 1))) = _
  rw [beqz h]
  rfl
theorem obl_fold (g : Nat → Nat → Nat) : ∀ f r a, (obl f r).foldl g a = Wd.og g f r a
  | 0, _, _ => rfl
  | f + 1, r, a => by
    by_cases h : r = 0
    · subst h; rfl
    · rw [obl_next f r h]
      show (obl f (r &&& (r - 1))).foldl g (g a (Wd.tz r)) = cond (Nat.beq r 0) a (Wd.og g f (r &&& (r - 1)) (g a (Wd.tz r)))
      rw [beqz h]
      exact obl_fold g f _ _
/-- a place of a bit of R that is 1 -/
abbrev OB (R : Nat) : Type := { i : Nat // i ∈ obl R R }
abbrev un {R : Nat} (l : List (OB R)) : List Nat := l.map (·.1)
theorem tz_lt (r : Nat) : Wd.tz r < 256 := Nat.mod_lt _ (by decide)
set_option maxRecDepth 100000 in
set_option maxHeartbeats 2000000 in
theorem ones1_in (n : Nat) (hn : 1 ≤ n) (l Bx R : Nat) (hR : R < 65536) (Kp : World → World → Prop) (hK : ∀ W W', Kp W W' → Gl W → Gl W')
    (J Jx : List (OB R) → World → Prop)
    (hY : ∀ pre x W, J pre W → pre.length < (obl R R).length → YieldAt Fence.wide (n - 1) Tryd.prog l #[.int .i64 (x.1 : Nat)] W fun e W' =>
      (e = .returned (.bool true) ∧ J (pre ++ [x]) W' ∧ Kp W W') ∨ (e = .returned (.bool false) ∧ Jx (pre ++ [x]) W'))
    (W : World) (hG : Gl W) (hc : W.cell? ⟨Bx, 0, none⟩ = some (.int .u16 R)) (h0 : J [] W) :
    CallsIn Fence.wide n Tryd.prog 21 #[.func (.yield l) #[] #[], .pointer (some ⟨Bx, 0, none⟩)] W fun e W' => (∃ v, e = .returned v) ∧
      ((∃ ys, un ys = obl R R ∧ J ys W') ∨ (∃ pre : List (OB R), True ∧ Jx pre W')) := by
  have HK := hid_of hK
  have HG := hid_of hG
  clear hK hG
  refine callsIn_of_wp Tryd.func21 rfl trivial ?_ rfl
  simp only [Tryd.ntmps21, List.size_toArray, List.length_cons, List.length_nil, Nat.reduceAdd, Nat.reduceSub, Array.replicate_succ, Array.replicate_zero, List.push_toArray, List.append_toArray, List.nil_append, List.cons_append]
  gi_wp2
  gi_loopw [3] (fun i wr => ∃ (pre : List (OB R)) (f r : Nat), r ≤ f ∧ r < 65536 ∧ i = .int .u16 r ∧ Hid (un pre ++ obl f r = obl R R) ∧ J pre wr ∧ Hid (Gl wr))
    (fun i _ => (intOf i).toNat)
  case atStart => exact ⟨[], R, R, Nat.le_refl _, hR, rfl, rfl, h0, HG⟩
  case round =>
    obtain ⟨pre, f, r, hf, hr, rfl, hS, hJs, HR⟩ := hrel
    by_cases hz : r = 0
    · have HP : Hid (un pre = obl R R) := by
        have := hS.out
        rw [hz, obl_zero, List.append_nil] at this
        exact this
      subst hz
      gi_wp2
      go_end0
      exact ⟨⟨_, rfl⟩, .inl ⟨pre, HP, hJs⟩⟩
    · have hz' : ((r : Int) != 0) = true := by simp [hz]
      obtain ⟨f, rfl⟩ : ∃ g, f = g + 1 := ⟨f - 1, by omega⟩
      have hS' := hS.out
      rw [obl_next f r hz] at hS'
      obtain ⟨p, hp⟩ : ∃ p : OB R, p.1 = Wd.tz r := ⟨⟨Wd.tz r, by rw [← hS']; simp⟩, rfl⟩
      have hlt : pre.length < (obl R R).length := by rw [← hS']; simp
      obtain ⟨fn, tmps, assign, body, hy, hRo⟩ := hY pre p wr hJs hlt
      rw [hp] at hy
      have HN : Hid (un (pre ++ [p]) ++ obl f (r &&& (r - 1)) = obl R R) := by
        show _ = _
        rw [← hS']
        simp [hp]
      have q1 : bits .and .u16 (r : Int) ((r : Int) - 1) = ((r &&& (r - 1) : Nat) : Int) := by
        rw [show (r : Int) - 1 = ((r - 1 : Nat) : Int) by omega]
        exact u16_and_nat r (r - 1) hr (by omega)
      have q2 : r &&& (r - 1) ≤ r - 1 := Nat.and_le_right
      have ht := hid_of (tz_any r wr (by omega) hr HR.out)
      have htl := tz_lt r
      generalize Wd.tz r = t at *
      generalize r &&& (r - 1) = r' at *
      clear hS' hS hp
      gi_wp2_with (refine ⟨trivial, ?_⟩; gi_at_call 22; refine (callsIn_wide.2 ht.out).mono ?_; rintro e w1 ⟨rfl, rfl⟩)
      gi_wp2
      refine hRo.mono ?_
      rintro e W3 (⟨rfl, hJ3, hk3⟩ | ⟨rfl, hJx3⟩)
      · gi_wp2
        go_roundw
        case rel => exact ⟨pre ++ [p], f, r', by omega, by omega, by go_num, HN, hJ3, HK.out _ _ hk3 HR.out⟩
        case measure => simp [intOf]; omega
      · gi_wp2
        refine bodyPost_ret (results_none rfl _ _ _) rfl ?_
        exact ⟨⟨_, rfl⟩, .inr ⟨pre ++ [p], trivial, hJx3⟩⟩
set_option maxHeartbeats 1000000 in
theorem ones_in (n R : Nat) (w : World) :
    CallsIn Fence.wide n Tryd.prog 18 #[.int .u16 R] w fun e w' => e = .returned (.func (.func 21) #[] #[.pointer (some ⟨w.heap.size, 0, none⟩)]) ∧ w' = w.alloc (.cells #[.int .u16 R] 22) := by
  refine callsIn_of_wp Tryd.func18 rfl trivial ?_ rfl
  simp only [Tryd.ntmps18, List.size_toArray, List.length_cons, List.length_nil, Nat.reduceAdd, Nat.reduceSub, Array.replicate_succ, Array.replicate_zero, List.push_toArray, List.append_toArray, List.nil_append, List.cons_append]
  gi_wp2
  go_ret
  exact ⟨rfl, rfl⟩
theorem ones_stops (n : Nat) (hn : 1 ≤ n) (Bx n₀ R : Nat) (hR : R < 65536) (w : World) (hBx : Bx < w.heap.size) (hn₀ : n₀ ≤ w.heap.size) (hn2 : 2 ≤ n₀)
    (hc : w.cell? ⟨Bx, 0, none⟩ = some (.int .u16 R)) (hG : Gl w) :
    SeqStopsK Fence.wide n Tryd.prog 21 #[.pointer (some ⟨Bx, 0, none⟩)] (fun x : OB R => #[Value.int .i64 (x.1 : Nat)]) (Below n₀) (fun ys => un ys = obl R R) (fun _ => True) (obl R R).length w :=
  fun l J Jx W hW _ _ hY h0 =>
    ones1_in n hn l Bx R hR (Below n₀) (fun _ _ h hg => hg.below hn2 h) J Jx hY W (hG.below (by omega) (hW.mono hn₀)) ((hW.cell (p := ⟨Bx, 0, none⟩) hBx).trans hc) h0
def fx {R : Nat} (l : List (OB R)) : Nat := (un l).foldl Nat.xor 0
theorem fx_snoc {R : Nat} (l : List (OB R)) (x : OB R) : fx (l ++ [x]) = fx l ^^^ x.1 := by simp [fx]
theorem obl_lt : ∀ f r, ∀ x ∈ obl f r, x < 256
  | 0, _, x, h => by cases h
  | f + 1, r, x, h => by
    by_cases hz : r = 0
    · subst hz; cases h
    · rw [obl_next f r hz] at h
      rcases List.mem_cons.1 h with rfl | h
      · exact tz_lt r
      · exact obl_lt f _ x h
theorem fold_xor_lt : ∀ (l : List Nat) (a : Nat), a < 256 → (∀ x ∈ l, x < 256) → l.foldl Nat.xor a < 256
  | [], _, h, _ => h
  | x :: l, a, h, hx => fold_xor_lt l (Nat.xor a x) (Nat.xor_lt_two_pow (n := 8) h (hx x (by simp))) (fun y hy => hx y (by simp [hy]))
theorem fx_lt {R : Nat} (l : List (OB R)) : fx l < 256 := by
  refine fold_xor_lt _ 0 (by decide) ?_
  intro x hx
  obtain ⟨y, _, rfl⟩ := List.mem_map.1 hx
  exact obl_lt R R _ y.2
theorem i64_xor (a b : Nat) (ha : a < 65536) (hb : b < 65536) : bits .xor .i64 (a : Int) (b : Int) = ((a ^^^ b : Nat) : Int) := by
  have h : a ^^^ b < 65536 := Nat.xor_lt_two_pow (n := 16) ha hb
  have e : (BitVec.ofInt 64 (a : Int) ^^^ BitVec.ofInt 64 (b : Int)).toNat = a ^^^ b := by
    rw [BitVec.toNat_xor, ofInt_u64 a (by omega), ofInt_u64 b (by omega)]
  show IntKind.i64.wrap (((BitVec.ofInt 64 (a : Int) ^^^ BitVec.ofInt 64 (b : Int)).toNat : Nat) : Int) = _
  rw [e, IntKind.wrap_i64]
  omega
set_option maxRecDepth 100000 in
set_option maxHeartbeats 2000000 in
theorem fault_in (R : Nat) (hR : R < 65536) (w : World) (hG : Gl w) :
    CallsIn Fence.wide 5 Tryd.prog 13 #[.int .u16 R] w fun e W' => e = .returned (.int .i64 (Wd.ft R : Nat)) ∧ Below w.heap.size w W' := by
  refine callsIn_of_wp_marks Tryd.func13 rfl trivial ?_ rfl
  simp only [Tryd.ntmps13, List.size_toArray, List.length_cons, List.length_nil, Nat.reduceAdd, Nat.reduceSub, Array.replicate_succ, Array.replicate_zero, List.push_toArray, List.append_toArray, List.nil_append, List.cons_append]
  have HG := hid_of hG
  clear hG
  gi_wp2_with (refine ⟨trivial, ?_⟩; gi_at_call 18; refine (ones_in _ _ _).mono ?_; rintro e w' ⟨rfl, rfl⟩)
  have bV := Boxed.new w 3 (.int .i64 0)
  have bN := Boxed.new (w.alloc (.cells #[.int .i64 0] 3)) 22 (.int .u16 R)
  simp only [World.size_alloc] at bV bN
  have hB0 : Below w.heap.size w ((w.alloc (.cells #[.int .i64 0] 3)).alloc (.cells #[.int .u16 R] 22)) := ((Below.refl _ w).alloc (Nat.le_refl _) _).alloc (by simp) _
  have hsz := HG.out.sz
  refine wpIn_rangeFunc_ownG rfl (by decide) (gf := 21) (lb := #[.pointer (some ⟨w.heap.size + 1, 0, none⟩)]) rfl trivial (enters_of Tryd.func21 (by kernel_rfl) rfl)
    (ones_stops 4 (by decide) (w.heap.size + 1) w.heap.size R hR _ (by simp) (by simp; omega) hsz bN.cell (HG.out.below hsz hB0)) belowK_t (belowK_b (by simp; omega)) (Below.refl _ _) (fun _ => rfl)
    (fun pre W => (W.cell? ⟨w.heap.size, 0, none⟩ = some (.int .i64 (fx pre : Nat)) ∧ W.frozen? ⟨w.heap.size, 0, none⟩ = false) ∧ Below w.heap.size w W)
    (fun _ _ _ => False)
    (OwnFrom.and (Own.from (fun s A B row hs hg hr => ⟨cell_kept hs.1 hg hr, (frozen_kept hs.1 hg hr).trans hs.2⟩) _) (ownFrom_below (Nat.le_refl _) (by simp; omega)))
    (fun _ _ _ _ _ hs _ _ => hs)
    ⟨⟨(bV.alloc _).cell, (bV.alloc _).frozen⟩, hB0⟩
    (fun p => { tmps := #[.int .u16 R, undef, .int .i64 0, .pointer (some ⟨w.heap.size, 0, none⟩), .int .i64 (p.1 : Nat), .int .u16 R, .func (.func 21) #[] #[.pointer (some ⟨w.heap.size + 1, 0, none⟩)], .int .i64 (p.1 : Nat), undef, undef, undef, undef], defers := [] }) ?assign ?body ?done ?stop
  case assign =>
    intro l p W K hK
    gi_wp2
    exact hK
  case body =>
    rintro l pre p W ⟨⟨hcv, hfv⟩, hB⟩ _
    have h1 := fx_lt pre
    have h2 := obl_lt R R _ p.2
    have hxr := i64_xor (fx pre) p.1 (by omega) (by omega)
    gi_wp2
    exact ⟨(KeepsOthers.setCell _ _ _).from _, (Below.refl w.heap.size _).setCell (p := ⟨w.heap.size, 0, none⟩) (by simp) _,
      ⟨by rw [fx_snoc]; exact World.cell?_setCell_same' _ _ _ (by rw [hcv]; rfl), by rw [World.frozen?_setCell]; exact hfv⟩, hB.setCell (p := ⟨w.heap.size, 0, none⟩) (by simp) _⟩
  case done =>
    rintro D ys W hD hys ⟨⟨hcv, hfv⟩, hB⟩ hK
    have e : fx ys = Wd.ft R := by
      show (un ys).foldl Nat.xor 0 = _
      rw [hys, obl_fold]
      rfl
    gi_wp2
    refine ⟨by simp, .inl ⟨_, _, rfl, run_takeDeferred hK, ?_⟩⟩
    exact ⟨_, results_tmp rfl _ _ _, by rw [← e]; rfl, hB.trans (belowK_b (w := w) (Nat.le_refl _) W D _ _ (by simp at hD; omega) hK rfl rfl)⟩
  case stop =>
    rintro D c pre W _ _ h _
    exact h.elim
theorem fault_any (R : Nat) (hR : R < 65536) (w : World) (hG : Gl w) :
    Calls Tryd.prog 13 #[.int .u16 R] w fun e W' => e = .returned (.int .i64 (Wd.ft R : Nat)) ∧ Below w.heap.size w W' := callsIn_wide.1 (fault_in R hR w hG)
end Go.Proofs.YtiiickinlklelaaDoor
