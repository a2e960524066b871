/- What Write of package word answers, for every byte. -/
import Derived.Test.YtiiickinlklelaaDoorFt
namespace Go.Proofs.YtiiickinlklelaaDoor
open Go.ChangeShapes Go.WideShapes Go.ChangeAt Go.RowKit Go.Shelf
attribute [local go_sem] Oper.semAt_some
section
variable {F : Fence} {n : Nat} {P : Program} {ops : Array Oper} {Q : Exit → Act → World → Prop} {md : Region.Mode} {l : Nat}
/-- In a round an operation that is no defer statement runs as everywhere. -/
theorem oper_round (hro : F.round = none) {o : Oper} (hd : ∀ c, o.op ≠ .defer c) (a : Act) (w : World) (K : Act → World → Prop) : o.wpIn F n P a w K Q ↔ o.wpIn (F.inRound l) n P a w K Q := by
  unfold Oper.wpIn
  rw [hro, Oper.semAt_eq _ _ _ hd, Oper.semAt_eq _ _ _ hd]
  generalize (execOp a.eval o).run P w = r
  cases r with
  | ok x w' => cases x <;> exact Iff.rfl
  | halt x w' => cases x <;> exact Iff.rfl
theorem op_round (hro : F.round = none) (hd : ∀ (i : Nat) (o : Oper), ops[i]? = some o → ∀ c, o.op ≠ .defer c) (i : Nat) (K : Act → World → Prop) (a : Act) (w : World) : wpOpIn F n P ops Q i K a w ↔ wpOpIn (F.inRound l) n P ops Q i K a w := by
  unfold wpOpIn
  cases ho : ops[i]? with
  | none => exact Iff.rfl
  | some o =>
    dsimp only
    by_cases hw : Region.wanted o (yielded ops a.tmps) = true
    · rw [if_pos hw, if_pos hw]; exact oper_round hro (hd i o ho) a w K
    · rw [if_neg hw, if_neg hw]; exact Iff.rfl
theorem any_round (hro : F.round = none) (hd : ∀ (i : Nat) (o : Oper), ops[i]? = some o → ∀ c, o.op ≠ .defer c) : ∀ (fuel : Nat) (listed : Array Bool) (a : Act) (w : World), wpAnyIn F n P md ops Q fuel listed a w ↔ wpAnyIn (F.inRound l) n P md ops Q fuel listed a w
  | 0, _, _, _ => Iff.rfl
  | fuel + 1, listed, a, w => by
    have ih : ∀ i, wpAnyIn F n P md ops Q fuel (listed.setIfInBounds i true) = wpAnyIn (F.inRound l) n P md ops Q fuel (listed.setIfInBounds i true) := fun i => by
      funext a' w'
      exact propext (any_round hro hd fuel _ a' w')
    unfold wpAnyIn
    constructor
    · rintro ⟨h1, h2⟩
      exact ⟨h1, fun i hi => by rw [← ih i]; exact (op_round hro hd i _ a w).1 (h2 i hi)⟩
    · rintro ⟨h1, h2⟩
      exact ⟨h1, fun i hi => by rw [ih i]; exact (op_round hro hd i _ a w).2 (h2 i hi)⟩
/-- no operation of these is a defer statement -/
def noDefer (ops : List Oper) : Bool := ops.all fun o => match o.op with
  | .defer _ => false
  | _ => true
theorem noDefer_spec {ops : List Oper} (h : noDefer ops = true) : ∀ (i : Nat) (o : Oper), ops.toArray[i]? = some o → ∀ c, o.op ≠ .defer c := by
  intro i o ho c e
  rw [List.getElem?_toArray] at ho
  have hm := List.mem_of_getElem? ho
  unfold noDefer at h
  rw [List.all_eq_true] at h
  have := h o hm
  rw [e] at this
  cases this
theorem region_quiet_round {id : Nat} {a : Act} {w : World} {ls : List Oper} (hro : F.round = none) (hm : P.follows .mixedOrders = true) (hd : noDefer ls = true) (hB : Region.lexB .any ls.toArray = true)
    (h : wpQuietIn F n P ls.toArray (fun w' => ∃ n, w' = w.drewN n) (fun a' => ∀ w', (∃ n, w' = w.drewN n) → Q .normal a' w') ls a) : (Code.region id ls.toArray true).wpIn (F.inRound l) n P Q a w := by
  simp only [Region.lexB, Bool.and_eq_true] at hB
  refine wpIn_region_any hm ((any_round hro (noDefer_spec hd) _ _ _ _).1 (wpAnyIn_of_quiet (C := fun w' => ∃ n, w' = w.drewN n) (Q := fun a' => ∀ w', (∃ n, w' = w.drewN n) → Q .normal a' w') hro (fun _ w' hw' h => h w' hw') _ _ _ _ ⟨1, rfl⟩ ?_))
  have := wpAnyQIn_lex (F := F) (n := n) (C := fun w' => ∃ n, w' = w.drewN n) (md := .any) hB.1 ls.toArray.toList 0 (Array.replicate ls.toArray.size false) a (by simp) (by simpa using hB.2) (by simpa using h)
  simpa using this
theorem region_any_round {id : Nat} {a : Act} {w : World} {ls : List Oper} (hro : F.round = none) (hm : P.follows .mixedOrders = true) (hd : noDefer ls = true)
    (h : wpAnyIn F n P .any ls.toArray Q ls.toArray.size (Array.replicate ls.toArray.size false) a w.drew) : (Code.region id ls.toArray true).wpIn (F.inRound l) n P Q a w :=
  wpIn_region_any hm ((any_round hro (noDefer_spec hd) _ _ _ _).1 h)
end

def h1 {R : Nat} (l : List (OB R)) : Nat := (un l).foldl Wd.g1 0
theorem h1_snoc {R : Nat} (l : List (OB R)) (x : OB R) : h1 (l ++ [x]) = h1 l ||| 2 ^ Wd.pl x.1 := by simp [h1, Wd.g1]
def h2 {R : Nat} (a : Nat) (l : List (OB R)) : Nat := (un l).foldl Wd.g2 a
theorem h2_snoc {R : Nat} (a : Nat) (l : List (OB R)) (x : OB R) : h2 a (l ++ [x]) = h2 a l ||| 2 ^ 2 ^ x.1 := by simp [h2, Wd.g2]
theorem pl_lt16 (i : Nat) : Wd.pl i < 16 := Nat.mod_lt _ (by decide)
theorem h1_lt {R : Nat} (l : List (OB R)) : h1 l < 65536 := by
  unfold h1
  suffices h : ∀ (l : List Nat) (a : Nat), a < 65536 → l.foldl Wd.g1 a < 65536 from h _ 0 (by decide)
  intro l
  induction l with
  | nil => intro a h; exact h
  | cons x l ih =>
    intro a h
    exact ih _ (Nat.or_lt_two_pow (n := 16) h (Nat.pow_lt_pow_right (by decide) (pl_lt16 x)))
set_option maxRecDepth 100000 in
theorem ob_chk : Wd.allP (fun b => (obl b b).all (fun i => i < 8)) 8 0 = true := by decide +kernel
set_option maxRecDepth 100000 in
theorem ob4_chk : Wd.allP (fun b => Nat.ble (Wd.ft (Wd.w1 b)) 15) 8 0 = true := by decide +kernel
theorem ob44_chk : Wd.allP (fun b => (obl b b).all (fun i => i < 4)) 4 0 = true := by decide +kernel
theorem ob_lt8 {b : Nat} (h : b < 256) (x : OB b) : x.1 < 8 := by
  have := Wd.all_lt ob_chk (i := b) h
  rw [List.all_eq_true] at this
  simpa using this x.1 x.2
theorem ob_lt4 {b : Nat} (h : b < 16) (x : OB b) : x.1 < 4 := by
  have := Wd.all_lt ob44_chk (i := b) h
  rw [List.all_eq_true] at this
  simpa using this x.1 x.2
theorem ft_w1 {b : Nat} (h : b < 256) : Wd.ft (Wd.w1 b) < 16 := by
  have := Wd.all_lt ob4_chk (i := b) h
  rw [Nat.ble_eq] at this
  omega
theorem h2_lt {b : Nat} (hb : b < 16) (a : Nat) (ha : a < 65536) (l : List (OB b)) : h2 a l < 65536 := by
  unfold h2
  suffices h : ∀ (l : List Nat) (a : Nat), (∀ x ∈ l, x < 4) → a < 65536 → l.foldl Wd.g2 a < 65536 from h _ a (fun x hx => by obtain ⟨y, _, rfl⟩ := List.mem_map.1 hx; exact ob_lt4 hb y) ha
  intro l
  induction l with
  | nil => intro a _ h; exact h
  | cons x l ih =>
    intro a hx h
    have h4 : 2 ^ x < 16 := Nat.pow_lt_pow_right (m := x) (n := 4) (by decide) (hx x (by simp))
    exact ih _ (fun y hy => hx y (by simp [hy])) (Nat.or_lt_two_pow (n := 16) h (Nat.pow_lt_pow_right (by decide) h4))
/-- one cell of the call's own is written -/
theorem put_ok {w W : World} {v v' : Nat} (hcv : W.cell? ⟨w.heap.size, 0, none⟩ = some (.int .u16 v)) (hfv : W.frozen? ⟨w.heap.size, 0, none⟩ = false) (hB : Below w.heap.size w W) (B : Nat) :
    KeepsFrom B W (W.setCell ⟨w.heap.size, 0, none⟩ (.int .u16 (v' : Nat))).drew ∧ Below w.heap.size W (W.setCell ⟨w.heap.size, 0, none⟩ (.int .u16 (v' : Nat))).drew ∧
      ((W.setCell ⟨w.heap.size, 0, none⟩ (.int .u16 (v' : Nat))).drew.cell? ⟨w.heap.size, 0, none⟩ = some (.int .u16 (v' : Nat)) ∧ (W.setCell ⟨w.heap.size, 0, none⟩ (.int .u16 (v' : Nat))).drew.frozen? ⟨w.heap.size, 0, none⟩ = false) ∧ Below w.heap.size w (W.setCell ⟨w.heap.size, 0, none⟩ (.int .u16 (v' : Nat))).drew := by
  have k := KeepsOthers.setCell W ⟨w.heap.size, 0, none⟩ (.int .u16 (v' : Nat))
  have hs : Below w.heap.size W (W.setCell ⟨w.heap.size, 0, none⟩ (.int .u16 (v' : Nat))).drew := ((Below.refl _ _).setCell (p := ⟨w.heap.size, 0, none⟩) (Nat.le_refl _) _).drew
  have h1 : (W.setCell ⟨w.heap.size, 0, none⟩ (.int .u16 (v' : Nat))).cell? ⟨w.heap.size, 0, none⟩ = some (.int .u16 (v' : Nat)) := World.cell?_setCell_same' _ _ _ (by rw [hcv]; rfl)
  have h2 : (W.setCell ⟨w.heap.size, 0, none⟩ (.int .u16 (v' : Nat))).frozen? ⟨w.heap.size, 0, none⟩ = false := by rw [World.frozen?_setCell]; exact hfv
  exact ⟨(show KeepsOthers W (W.setCell ⟨w.heap.size, 0, none⟩ (.int .u16 (v' : Nat))).drew from ⟨k.size, k.same⟩).from _, hs, ⟨h1, h2⟩, hB.trans hs⟩
theorem ownFrom_block {β : Type} {B D : Nat} {o : Obj} (hD : D < B) : OwnFrom B (fun (_ : β) W => W.heap[D]? = some o) :=
  fun _ _ _ _ hs hg hr => (hg.block D (Array.getElem?_eq_some_iff.1 hs).1 (fun e => by have := (hr D e.symm).1; omega)).trans hs
theorem or_pow (a i : Nat) (ha : a < 65536) (hi : i < 16) : bits .or .u16 (a : Int) (IntKind.u16.wrap (2 ^ i)) = ((a ||| 2 ^ i : Nat) : Int) := by
  have h : (2 : Nat) ^ i < 65536 := Nat.pow_lt_pow_right (m := i) (n := 16) (by decide) hi
  have e : IntKind.u16.wrap (2 ^ i) = ((2 ^ i : Nat) : Int) := by
    have e1 : (2 : Int) ^ i = ((2 ^ i : Nat) : Int) := by push_cast; rfl
    rw [e1, IntKind.wrap_u16]
    clear e1
    generalize (2 : Nat) ^ i = P at h ⊢
    omega
  rw [e]
  exact u16_or_nat a (2 ^ i) ha h
theorem or_pow2 (a i : Nat) (ha : a < 65536) (hi : i < 4) : bits .or .u16 (a : Int) (IntKind.u16.wrap (2 ^ min (IntKind.u64.wrap (2 ^ i)).toNat 16)) = ((a ||| 2 ^ 2 ^ i : Nat) : Int) := by
  have h : (2 : Nat) ^ i < 16 := Nat.pow_lt_pow_right (m := i) (n := 4) (by decide) hi
  have e : min (IntKind.u64.wrap (2 ^ i)).toNat 16 = 2 ^ i := by
    have e1 : (2 : Int) ^ i = ((2 ^ i : Nat) : Int) := by push_cast; rfl
    rw [e1, IntKind.wrap_u64]
    clear e1
    generalize (2 : Nat) ^ i = P at h ⊢
    omega
  rw [e]
  exact or_pow a (2 ^ i) ha h
set_option maxRecDepth 100000 in
set_option maxHeartbeats 4000000 in
theorem write_in (b : Nat) (hb : b < 256) (w : World) (hG : Gl w) :
    CallsIn Fence.wide 5 Tryd.prog 11 #[.int .u8 b] w fun e W' => e = .returned (.int .u16 (Wd.wr b : Nat)) ∧ Below w.heap.size w W' := by
  refine callsIn_of_wp_marks Tryd.func11 rfl trivial ?_ rfl
  simp only [Tryd.ntmps11, List.size_toArray, List.length_cons, List.length_nil, Nat.reduceAdd, Nat.reduceSub, Array.replicate_succ, Array.replicate_zero, List.push_toArray, List.append_toArray, List.nil_append, List.cons_append]
  have HG := hid_of hG
  have hsz := hG.sz
  have hmx : Tryd.prog.follows Departure.mixedOrders = true := by kernel_rfl
  have Hmx := hid_of hmx
  clear hG hmx
  gi_wp2_with (refine ⟨trivial, ?_⟩; gi_at_call 18; refine (ones_in _ b _).mono ?_; rintro e w' ⟨rfl, rfl⟩)
  have bV := Boxed.new w 22 (.int .u16 0)
  have bN := Boxed.new (w.alloc (.cells #[.int .u16 0] 22)) 22 (.int .u16 b)
  simp only [World.size_alloc] at bV bN
  have hB0 : Below w.heap.size w ((w.alloc (.cells #[.int .u16 0] 22)).alloc (.cells #[.int .u16 b] 22)) := ((Below.refl _ w).alloc (Nat.le_refl _) _).alloc (by simp) _
  refine wpIn_rangeFunc_ownG rfl (by decide) (gf := 21) (lb := #[.pointer (some ⟨w.heap.size + 1, 0, none⟩)]) rfl trivial (enters_of Tryd.func21 (by kernel_rfl) rfl)
    (ones_stops 4 (by decide) (w.heap.size + 1) w.heap.size b (by omega) _ (by simp) (by simp; omega) hsz bN.cell (HG.out.below hsz hB0)) belowK_t (belowK_b (by simp; omega)) (Below.refl _ _) (fun _ => rfl)
    (fun pre W => (W.cell? ⟨w.heap.size, 0, none⟩ = some (.int .u16 (h1 pre : Nat)) ∧ W.frozen? ⟨w.heap.size, 0, none⟩ = false) ∧ Below w.heap.size w W)
    (fun _ _ _ => False)
    (OwnFrom.and (Own.from (fun s A B row hs hg hr => ⟨cell_kept hs.1 hg hr, (frozen_kept hs.1 hg hr).trans hs.2⟩) _) (ownFrom_below (Nat.le_refl _) (by simp; omega)))
    (fun _ _ _ _ _ hs _ _ => hs)
    ⟨⟨(bV.alloc _).cell, (bV.alloc _).frozen⟩, hB0⟩
    (fun p => { tmps := #[.int .u8 b, undef, .int .u16 0, .pointer (some ⟨w.heap.size, 0, none⟩), .int .i64 (p.1 : Nat), undef, .int .u8 b, .int .u16 b, .func (.func 21) #[] #[.pointer (some ⟨w.heap.size + 1, 0, none⟩)], .int .i64 (p.1 : Nat), undef, undef, undef, undef, undef, undef, undef, undef, undef, undef, undef, undef, undef, undef, undef, undef, undef, undef, undef, undef, undef], defers := [] }) ?assign ?body ?done ?stop
  case assign =>
    intro l p W K hK
    gi_wp2
    exact hK
  case body =>
    rintro l pre p W ⟨⟨hcv, hfv⟩, hB⟩ _
    have q1 := h1_lt pre
    have q2 := ob_lt8 hb p
    have q2i : ((p.1 : Nat) : Int) < 8 := by omega
    have q3 := pl_lt q2
    have hcp := (HG.out.below hsz hB).pl p.1 q2
    have hor := or_pow (h1 pre) (Wd.pl p.1) q1 (by omega)
    rw [← h1_snoc] at hor
    have HE := hid_of (put_ok (v' := h1 (pre ++ [p])) hcv hfv hB)
    gi_wp2
    refine region_any_round rfl Hmx.out (by rfl) ?_
    simp only [List.size_toArray, List.length_cons, List.length_nil, Nat.reduceAdd, Array.replicate_succ, Array.replicate_zero, List.push_toArray, List.nil_append, List.cons_append]
    refine wpAnyIn_ready (rs := [0, 1]) (by kernel_rfl) (by simp) ?_
    refine AllReadyIn.cons rfl (fun K hK => ?_) ?_
    · go_simp
      refine hK _ _ ?_
      clear hK K
      refine wpAnyIn_ready (rs := [1]) (by kernel_rfl) (by simp) ?_
      refine AllReadyIn.cons rfl (fun K hK => ?_) ?_
      · go_simp
        refine hK _ _ ?_
        clear hK K
        refine wpAnyIn_ready (rs := [2]) (by kernel_rfl) (by simp) ?_
        refine AllReadyIn.cons rfl (fun K hK => ?_) ?_
        · go_simp
          refine hK _ _ ?_
          clear hK K
          refine wpAnyIn_ready (rs := [3]) (by kernel_rfl) (by simp) ?_
          refine AllReadyIn.cons rfl (fun K hK => ?_) ?_
          · go_simp
            refine hK _ _ ?_
            clear hK K
            refine wpAnyIn_ready (rs := [4]) (by kernel_rfl) (by simp) ?_
            refine AllReadyIn.cons rfl (fun K hK => ?_) ?_
            · go_simp
              refine hK _ _ ?_
              clear hK K
              refine wpAnyIn_ready (rs := [5]) (by kernel_rfl) (by simp) ?_
              refine AllReadyIn.cons rfl (fun K hK => ?_) ?_
              · go_simp
                refine hK _ _ ?_
                clear hK K
                refine wpAnyIn_ready (rs := [6]) (by kernel_rfl) (by simp) ?_
                refine AllReadyIn.cons rfl (fun K hK => ?_) ?_
                · go_simp
                  refine hK _ _ ?_
                  clear hK K
                  refine wpAnyIn_done (by kernel_rfl) ?_ _
                  exact HE.out _
                exact AllReadyIn.nil
              exact AllReadyIn.nil
            exact AllReadyIn.nil
          exact AllReadyIn.nil
        exact AllReadyIn.nil
      exact AllReadyIn.nil
    refine AllReadyIn.cons rfl (fun K hK => ?_) ?_
    · go_simp
      refine hK _ _ ?_
      clear hK K
      refine wpAnyIn_ready (rs := [0, 2]) (by kernel_rfl) (by simp) ?_
      refine AllReadyIn.cons rfl (fun K hK => ?_) ?_
      · go_simp
        refine hK _ _ ?_
        clear hK K
        refine wpAnyIn_ready (rs := [2]) (by kernel_rfl) (by simp) ?_
        refine AllReadyIn.cons rfl (fun K hK => ?_) ?_
        · go_simp
          refine hK _ _ ?_
          clear hK K
          refine wpAnyIn_ready (rs := [3]) (by kernel_rfl) (by simp) ?_
          refine AllReadyIn.cons rfl (fun K hK => ?_) ?_
          · go_simp
            refine hK _ _ ?_
            clear hK K
            refine wpAnyIn_ready (rs := [4]) (by kernel_rfl) (by simp) ?_
            refine AllReadyIn.cons rfl (fun K hK => ?_) ?_
            · go_simp
              refine hK _ _ ?_
              clear hK K
              refine wpAnyIn_ready (rs := [5]) (by kernel_rfl) (by simp) ?_
              refine AllReadyIn.cons rfl (fun K hK => ?_) ?_
              · go_simp
                refine hK _ _ ?_
                clear hK K
                refine wpAnyIn_ready (rs := [6]) (by kernel_rfl) (by simp) ?_
                refine AllReadyIn.cons rfl (fun K hK => ?_) ?_
                · go_simp
                  refine hK _ _ ?_
                  clear hK K
                  refine wpAnyIn_done (by kernel_rfl) ?_ _
                  exact HE.out _
                exact AllReadyIn.nil
              exact AllReadyIn.nil
            exact AllReadyIn.nil
          exact AllReadyIn.nil
        exact AllReadyIn.nil
      refine AllReadyIn.cons rfl (fun K hK => ?_) ?_
      · go_simp
        refine hK _ _ ?_
        clear hK K
        refine wpAnyIn_ready (rs := [0, 3]) (by kernel_rfl) (by simp) ?_
        refine AllReadyIn.cons rfl (fun K hK => ?_) ?_
        · go_simp
          refine hK _ _ ?_
          clear hK K
          refine wpAnyIn_ready (rs := [3]) (by kernel_rfl) (by simp) ?_
          refine AllReadyIn.cons rfl (fun K hK => ?_) ?_
          · go_simp
            refine hK _ _ ?_
            clear hK K
            refine wpAnyIn_ready (rs := [4]) (by kernel_rfl) (by simp) ?_
            refine AllReadyIn.cons rfl (fun K hK => ?_) ?_
            · go_simp
              refine hK _ _ ?_
              clear hK K
              refine wpAnyIn_ready (rs := [5]) (by kernel_rfl) (by simp) ?_
              refine AllReadyIn.cons rfl (fun K hK => ?_) ?_
              · go_simp
                refine hK _ _ ?_
                clear hK K
                refine wpAnyIn_ready (rs := [6]) (by kernel_rfl) (by simp) ?_
                refine AllReadyIn.cons rfl (fun K hK => ?_) ?_
                · go_simp
                  refine hK _ _ ?_
                  clear hK K
                  refine wpAnyIn_done (by kernel_rfl) ?_ _
                  exact HE.out _
                exact AllReadyIn.nil
              exact AllReadyIn.nil
            exact AllReadyIn.nil
          exact AllReadyIn.nil
        refine AllReadyIn.cons rfl (fun K hK => ?_) ?_
        · go_simp
          refine hK _ _ ?_
          clear hK K
          refine wpAnyIn_ready (rs := [0, 4]) (by kernel_rfl) (by simp) ?_
          refine AllReadyIn.cons rfl (fun K hK => ?_) ?_
          · go_simp
            refine hK _ _ ?_
            clear hK K
            refine wpAnyIn_ready (rs := [4]) (by kernel_rfl) (by simp) ?_
            refine AllReadyIn.cons rfl (fun K hK => ?_) ?_
            · go_simp
              refine hK _ _ ?_
              clear hK K
              refine wpAnyIn_ready (rs := [5]) (by kernel_rfl) (by simp) ?_
              refine AllReadyIn.cons rfl (fun K hK => ?_) ?_
              · go_simp
                refine hK _ _ ?_
                clear hK K
                refine wpAnyIn_ready (rs := [6]) (by kernel_rfl) (by simp) ?_
                refine AllReadyIn.cons rfl (fun K hK => ?_) ?_
                · go_simp
                  refine hK _ _ ?_
                  clear hK K
                  refine wpAnyIn_done (by kernel_rfl) ?_ _
                  exact HE.out _
                exact AllReadyIn.nil
              exact AllReadyIn.nil
            exact AllReadyIn.nil
          refine AllReadyIn.cons rfl (fun K hK => ?_) ?_
          · go_simp
            refine hK _ _ ?_
            clear hK K
            refine wpAnyIn_ready (rs := [0]) (by kernel_rfl) (by simp) ?_
            refine AllReadyIn.cons rfl (fun K hK => ?_) ?_
            · go_simp
              refine hK _ _ ?_
              clear hK K
              refine wpAnyIn_ready (rs := [5]) (by kernel_rfl) (by simp) ?_
              refine AllReadyIn.cons rfl (fun K hK => ?_) ?_
              · go_simp
                refine hK _ _ ?_
                clear hK K
                refine wpAnyIn_ready (rs := [6]) (by kernel_rfl) (by simp) ?_
                refine AllReadyIn.cons rfl (fun K hK => ?_) ?_
                · go_simp
                  refine hK _ _ ?_
                  clear hK K
                  refine wpAnyIn_done (by kernel_rfl) ?_ _
                  exact HE.out _
                exact AllReadyIn.nil
              exact AllReadyIn.nil
            exact AllReadyIn.nil
          exact AllReadyIn.nil
        exact AllReadyIn.nil
      exact AllReadyIn.nil
    exact AllReadyIn.nil

  case done =>
    rintro D ys W hD hys ⟨⟨hcv, hfv⟩, hB⟩ hK
    have e1 : h1 ys = Wd.w1 b := by
      show (un ys).foldl Wd.g1 0 = _
      rw [hys, obl_fold]
      rfl
    have q1 := h1_lt ys
    have f16 := ft_w1 hb
    rw [e1] at hcv q1
    have HGW := hid_of (HG.out.below hsz hB)
    clear e1 hys
    have HW := hid_of (show Wd.wr b = Wd.wp (Wd.w2 (Wd.ft (Wd.w1 b)) (Wd.w1 b)) from rfl)
    generalize Wd.w1 b = V at *
    have hfa := hid_of (fault_any V q1 W HGW.out)
    generalize Wd.ft V = F at *
    have hwW : w.heap.size < W.heap.size := by
      have := (Array.getElem?_eq_some_iff.1 hK).1
      simp at hD
      omega
    gi_wp2_with fail
    refine ⟨trivial, ?_⟩
    gi_at_call 13
    refine (callsIn_wide.2 hfa.out).mono ?_
    rintro e w1 ⟨rfl, hb1⟩
    have hB1 := hB.trans (hb1.mono (by omega))
    have hcv1 := (hb1.cell (p := ⟨w.heap.size, 0, none⟩) hwW).trans hcv
    have hfv1 := (hb1.frozen (p := ⟨w.heap.size, 0, none⟩) hwW).trans hfv
    have hK1 := (hb1.block D (Array.getElem?_eq_some_iff.1 hK).1).trans hK
    have hw1 : w.heap.size < w1.heap.size := by have := hb1.size; omega
    clear hcv hfv hK hB hb1 hfa hwW
    gi_wp2_with fail
    refine ⟨trivial, ?_⟩
    gi_at_call 18
    refine (ones_in _ F _).mono ?_
    rintro e w' ⟨rfl, rfl⟩
    have bM := Boxed.new w1 22 (.int .u16 F)
    have hBm : Below w1.heap.size w1 (w1.alloc (.cells #[.int .u16 F] 22)) := (Below.refl _ w1).alloc (Nat.le_refl _) _
    have hB2 := hB1.trans (hBm.mono (by omega))
    have hcv2 := (hBm.cell (p := ⟨w.heap.size, 0, none⟩) hw1).trans hcv1
    have hfv2 := (hBm.frozen (p := ⟨w.heap.size, 0, none⟩) hw1).trans hfv1
    have hK2 := (hBm.block D (Array.getElem?_eq_some_iff.1 hK1).1).trans hK1
    gi_wp2_with fail
    have hDw : D < (w1.alloc (.cells #[.int .u16 F] 22)).heap.size := (Array.getElem?_eq_some_iff.1 hK2).1
    refine wpIn_rangeFunc_ownG rfl (by decide) (gf := 21) (lb := #[.pointer (some ⟨w1.heap.size, 0, none⟩)]) rfl trivial (enters_of Tryd.func21 (by kernel_rfl) rfl)
      (ones_stops 4 (by decide) w1.heap.size w.heap.size F (by omega) _ (by simp) (by simp; omega) hsz bM.cell (HG.out.below hsz hB2)) belowK_t (belowK_b (by simp; omega)) (Below.refl _ _) (fun _ => rfl)
      (fun pre W => ((W.cell? ⟨w.heap.size, 0, none⟩ = some (.int .u16 (h2 V pre : Nat)) ∧ W.frozen? ⟨w.heap.size, 0, none⟩ = false) ∧ Below w.heap.size w W) ∧ W.heap[D]? = some (.deferred (some [])))
      (fun _ _ _ => False)
      (OwnFrom.and (OwnFrom.and (Own.from (fun s A B row hs hg hr => ⟨cell_kept hs.1 hg hr, (frozen_kept hs.1 hg hr).trans hs.2⟩) _) (ownFrom_below (Nat.le_refl _) (by simp; omega))) (ownFrom_block hDw))
      (fun _ _ _ _ _ hs _ _ => hs)
      ⟨⟨⟨hcv2, hfv2⟩, hB2⟩, hK2⟩
      (fun p => { tmps := #[.int .u8 b, undef, .int .u16 0, .pointer (some ⟨w.heap.size, 0, none⟩), undef, .int .i64 (p.1 : Nat), .int .u8 b, .int .u16 b, .func (.func 21) #[] #[.pointer (some ⟨w.heap.size + 1, 0, none⟩)], undef, undef, undef, undef, undef, undef, undef, .int .u16 V, .int .i64 F, .int .u16 F, .func (.func 21) #[] #[.pointer (some ⟨w1.heap.size, 0, none⟩)], .int .i64 (p.1 : Nat), undef, undef, undef, undef, undef, undef, undef, undef, undef, undef], defers := [] }) ?assign2 ?body2 ?done2 ?stop2
    case assign2 =>
      intro l p W K hK
      gi_wp2
      exact hK
    case body2 =>
      rintro l pre p W ⟨⟨⟨hcv, hfv⟩, hB⟩, hKD⟩ _
      have r1 := h2_lt f16 V q1 pre
      have r2 := ob_lt4 f16 p
      have r3 : (2 : Nat) ^ p.1 < 16 := Nat.pow_lt_pow_right (m := p.1) (n := 4) (by decide) r2
      have hor := or_pow2 (h2 V pre) p.1 r1 r2
      rw [← h2_snoc] at hor
      have HE := hid_of (put_ok (v' := h2 V (pre ++ [p])) hcv hfv hB)
      have HD : Hid ((W.setCell ⟨w.heap.size, 0, none⟩ (.int .u16 (h2 V (pre ++ [p]) : Nat))).drew.heap[D]? = some (.deferred (some []))) := (KeepsOthers.setCell W ⟨w.heap.size, 0, none⟩ (.int .u16 (h2 V (pre ++ [p]) : Nat))).same D _ hKD rfl
      clear hKD
      gi_wp2
      refine region_any_round rfl Hmx.out (by rfl) ?_
      simp only [List.size_toArray, List.length_cons, List.length_nil, Nat.reduceAdd, Array.replicate_succ, Array.replicate_zero, List.push_toArray, List.nil_append, List.cons_append]
      refine wpAnyIn_ready (rs := [0, 1]) (by kernel_rfl) (by simp) ?_
      refine AllReadyIn.cons rfl (fun K hK => ?_) ?_
      · go_simp
        refine hK _ _ ?_
        clear hK K
        refine wpAnyIn_ready (rs := [1]) (by kernel_rfl) (by simp) ?_
        refine AllReadyIn.cons rfl (fun K hK => ?_) ?_
        · go_simp
          refine hK _ _ ?_
          clear hK K
          refine wpAnyIn_ready (rs := [2]) (by kernel_rfl) (by simp) ?_
          refine AllReadyIn.cons rfl (fun K hK => ?_) ?_
          · go_simp
            refine hK _ _ ?_
            clear hK K
            refine wpAnyIn_ready (rs := [3]) (by kernel_rfl) (by simp) ?_
            refine AllReadyIn.cons rfl (fun K hK => ?_) ?_
            · go_simp
              refine hK _ _ ?_
              clear hK K
              refine wpAnyIn_ready (rs := [4]) (by kernel_rfl) (by simp) ?_
              refine AllReadyIn.cons rfl (fun K hK => ?_) ?_
              · go_simp
                refine hK _ _ ?_
                clear hK K
                refine wpAnyIn_ready (rs := [5]) (by kernel_rfl) (by simp) ?_
                refine AllReadyIn.cons rfl (fun K hK => ?_) ?_
                · go_simp
                  refine hK _ _ ?_
                  clear hK K
                  refine wpAnyIn_done (by kernel_rfl) ?_ _
                  exact ⟨(HE.out _).1, (HE.out 0).2.1, (HE.out 0).2.2, HD.out⟩
                exact AllReadyIn.nil
              exact AllReadyIn.nil
            exact AllReadyIn.nil
          exact AllReadyIn.nil
        exact AllReadyIn.nil
      refine AllReadyIn.cons rfl (fun K hK => ?_) ?_
      · go_simp
        refine hK _ _ ?_
        clear hK K
        refine wpAnyIn_ready (rs := [0, 2]) (by kernel_rfl) (by simp) ?_
        refine AllReadyIn.cons rfl (fun K hK => ?_) ?_
        · go_simp
          refine hK _ _ ?_
          clear hK K
          refine wpAnyIn_ready (rs := [2]) (by kernel_rfl) (by simp) ?_
          refine AllReadyIn.cons rfl (fun K hK => ?_) ?_
          · go_simp
            refine hK _ _ ?_
            clear hK K
            refine wpAnyIn_ready (rs := [3]) (by kernel_rfl) (by simp) ?_
            refine AllReadyIn.cons rfl (fun K hK => ?_) ?_
            · go_simp
              refine hK _ _ ?_
              clear hK K
              refine wpAnyIn_ready (rs := [4]) (by kernel_rfl) (by simp) ?_
              refine AllReadyIn.cons rfl (fun K hK => ?_) ?_
              · go_simp
                refine hK _ _ ?_
                clear hK K
                refine wpAnyIn_ready (rs := [5]) (by kernel_rfl) (by simp) ?_
                refine AllReadyIn.cons rfl (fun K hK => ?_) ?_
                · go_simp
                  refine hK _ _ ?_
                  clear hK K
                  refine wpAnyIn_done (by kernel_rfl) ?_ _
                  exact ⟨(HE.out _).1, (HE.out 0).2.1, (HE.out 0).2.2, HD.out⟩
                exact AllReadyIn.nil
              exact AllReadyIn.nil
            exact AllReadyIn.nil
          exact AllReadyIn.nil
        refine AllReadyIn.cons rfl (fun K hK => ?_) ?_
        · go_simp
          refine hK _ _ ?_
          clear hK K
          refine wpAnyIn_ready (rs := [0, 3]) (by kernel_rfl) (by simp) ?_
          refine AllReadyIn.cons rfl (fun K hK => ?_) ?_
          · go_simp
            refine hK _ _ ?_
            clear hK K
            refine wpAnyIn_ready (rs := [3]) (by kernel_rfl) (by simp) ?_
            refine AllReadyIn.cons rfl (fun K hK => ?_) ?_
            · go_simp
              refine hK _ _ ?_
              clear hK K
              refine wpAnyIn_ready (rs := [4]) (by kernel_rfl) (by simp) ?_
              refine AllReadyIn.cons rfl (fun K hK => ?_) ?_
              · go_simp
                refine hK _ _ ?_
                clear hK K
                refine wpAnyIn_ready (rs := [5]) (by kernel_rfl) (by simp) ?_
                refine AllReadyIn.cons rfl (fun K hK => ?_) ?_
                · go_simp
                  refine hK _ _ ?_
                  clear hK K
                  refine wpAnyIn_done (by kernel_rfl) ?_ _
                  exact ⟨(HE.out _).1, (HE.out 0).2.1, (HE.out 0).2.2, HD.out⟩
                exact AllReadyIn.nil
              exact AllReadyIn.nil
            exact AllReadyIn.nil
          refine AllReadyIn.cons rfl (fun K hK => ?_) ?_
          · go_simp
            refine hK _ _ ?_
            clear hK K
            refine wpAnyIn_ready (rs := [0]) (by kernel_rfl) (by simp) ?_
            refine AllReadyIn.cons rfl (fun K hK => ?_) ?_
            · go_simp
              refine hK _ _ ?_
              clear hK K
              refine wpAnyIn_ready (rs := [4]) (by kernel_rfl) (by simp) ?_
              refine AllReadyIn.cons rfl (fun K hK => ?_) ?_
              · go_simp
                refine hK _ _ ?_
                clear hK K
                refine wpAnyIn_ready (rs := [5]) (by kernel_rfl) (by simp) ?_
                refine AllReadyIn.cons rfl (fun K hK => ?_) ?_
                · go_simp
                  refine hK _ _ ?_
                  clear hK K
                  refine wpAnyIn_done (by kernel_rfl) ?_ _
                  exact ⟨(HE.out _).1, (HE.out 0).2.1, (HE.out 0).2.2, HD.out⟩
                exact AllReadyIn.nil
              exact AllReadyIn.nil
            exact AllReadyIn.nil
          exact AllReadyIn.nil
        exact AllReadyIn.nil
      exact AllReadyIn.nil
    case done2 =>
      rintro D2 zs W hD2 hzs ⟨⟨⟨hcv, hfv⟩, hB⟩, hKD⟩ hK
      have e1 : h2 V zs = Wd.w2 F V := by
        show (un zs).foldl Wd.g2 V = _
        rw [hzs, obl_fold]
        rfl
      have r1 := h2_lt f16 V q1 zs
      rw [e1] at hcv r1
      clear e1 hzs
      generalize Wd.w2 F V = M at *
      have hod := hid_of (odd_any M W r1)
      have hor : bits .or .u16 (M : Int) 1 = ((M ||| 1 : Nat) : Int) := u16_or_nat M 1 r1 (by decide)
      have HWp := hid_of (show Wd.wp M = cond (Wd.od M) (Nat.lor M 1) M from rfl)
      have hDD : D ≠ D2 := by omega
      have hDw2 : w.heap.size ≤ D := by simp at hD; omega
      have hD2w : w.heap.size ≤ D2 := by simp at hD2; omega
      cases hO : Wd.od M with
      | false =>
        rw [hO] at hod HWp
        clear hO
        gi_wp2_with fail
        refine ⟨trivial, ?_⟩
        gi_at_call 14
        refine (callsIn_wide.2 hod.out).mono ?_
        rintro e w3 ⟨rfl, n, rfl⟩
        have HK : Hid ((W.drewN n).heap[D2]? = some (.deferred (some []))) := hK
        have HKD : Hid ((W.drewN n).heap[D]? = some (.deferred (some []))) := hKD
        have HBl : Hid (Below w.heap.size w (W.drewN n)) := ⟨hB.os, hB.tape, hB.output, hB.size, hB.block⟩
        clear hK hKD hB
        gi_wp2_with fail
        refine ⟨by simp, .inl ⟨_, _, rfl, run_takeDeferred HK.out, ?_⟩⟩
        refine ⟨by simp, .inl ⟨_, _, rfl, run_takeDeferred ((World.putObj_heap_other hDD).trans HKD.out), ?_⟩⟩
        exact ⟨_, results_tmp rfl _ _ _, by rw [HW.out, HWp.out]; rfl, (HBl.out.trans (belowK_b (w := w) (Nat.le_refl _) _ D2 _ _ (by omega) HK.out rfl rfl)).trans (belowK_b (w := w) (Nat.le_refl _) _ D _ _ (by omega) ((World.putObj_heap_other hDD).trans HKD.out) rfl rfl)⟩
      | true =>
        rw [hO] at hod HWp
        clear hO
        gi_wp2_with fail
        refine ⟨trivial, ?_⟩
        gi_at_call 14
        refine (callsIn_wide.2 hod.out).mono ?_
        rintro e w3 ⟨rfl, n, rfl⟩
        have hB' : Below w.heap.size w (W.drewN n) := ⟨hB.os, hB.tape, hB.output, hB.size, hB.block⟩
        have HBl : Hid (Below w.heap.size w ((W.drewN n).setCell ⟨w.heap.size, 0, none⟩ (.int .u16 (M ||| 1 : Nat)))) := hB'.setCell (p := ⟨w.heap.size, 0, none⟩) (Nat.le_refl _) _
        have hk := KeepsOthers.setCell (W.drewN n) ⟨w.heap.size, 0, none⟩ (.int .u16 (M ||| 1 : Nat))
        have HK : Hid (((W.drewN n).setCell ⟨w.heap.size, 0, none⟩ (.int .u16 (M ||| 1 : Nat))).heap[D2]? = some (.deferred (some []))) := hk.same _ _ hK rfl
        have HKD : Hid (((W.drewN n).setCell ⟨w.heap.size, 0, none⟩ (.int .u16 (M ||| 1 : Nat))).heap[D]? = some (.deferred (some []))) := hk.same _ _ hKD rfl
        clear hK hKD hB hB' hk
        gi_wp2_with fail
        refine ⟨by simp, .inl ⟨_, _, rfl, run_takeDeferred HK.out, ?_⟩⟩
        refine ⟨by simp, .inl ⟨_, _, rfl, run_takeDeferred ((World.putObj_heap_other hDD).trans HKD.out), ?_⟩⟩
        exact ⟨_, results_tmp rfl _ _ _, by rw [HW.out, HWp.out]; rfl, (HBl.out.trans (belowK_b (w := w) (Nat.le_refl _) _ D2 _ _ (by omega) HK.out rfl rfl)).trans (belowK_b (w := w) (Nat.le_refl _) _ D _ _ (by omega) ((World.putObj_heap_other hDD).trans HKD.out) rfl rfl)⟩
    case stop2 =>
      rintro D c pre W _ _ h _
      exact h.elim
  case stop =>
    rintro D c pre W _ _ h _
    exact h.elim

theorem write_any (b : Nat) (hb : b < 256) (w : World) (hG : Gl w) :
    Calls Tryd.prog 11 #[.int .u8 b] w fun e W' => e = .returned (.int .u16 (Wd.wr b : Nat)) ∧ Below w.heap.size w W' := callsIn_wide.1 (write_in b hb w hG)
end Go.Proofs.YtiiickinlklelaaDoor
