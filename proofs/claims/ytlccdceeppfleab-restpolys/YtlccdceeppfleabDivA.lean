/- Where the lists of poly.divide lie while it goes on, and what one step of it makes of them. -/
import Derived.Test.YtlccdceeppfleabMulP
import Derived.Deep.DeepMust
namespace Go.Proofs.Ytlccdceeppfleab
open Go.ChangeShapes Go.WideShapes Go.ChangeAt Go.RowKit Go.Shelf
attribute [local go_sem] Oper.semAt_some
/-- one step of a division: the factor of place i away -/
def dstep (By : List Nat) (iv : Nat) (s : List Nat × List Nat) (i : Nat) : List Nat × List Nat :=
  (s.1.set (i - (By.length - 1)) (Gf.gm (s.2[i]?.getD 0) iv), addAt s.2 (i - (By.length - 1)) By (Gf.gm (s.2[i]?.getD 0) iv))
def LtB (_ : Nat) (v : Nat) : Prop := v < 256
def St {n : Nat} (P By : List Nat) (iv : Nat) (pre : List (PB n LtB)) : List Nat × List Nat := pre.foldl (fun s p => dstep By iv s p.1.1) (List.replicate P.length 0, P)
theorem St_snoc {n : Nat} (P By : List Nat) (iv : Nat) (pre : List (PB n LtB)) (p : PB n LtB) : St P By iv (pre ++ [p]) = dstep By iv (St P By iv pre) p.1.1 := by simp [St]
theorem St_ok {n : Nat} {P By : List Nat} {iv : Nat} (hP : ∀ x ∈ P, x < 256) (hB : ∀ x ∈ By, x < 256) (pre : List (PB n LtB)) :
    (St P By iv pre).1.length = P.length ∧ (St P By iv pre).2.length = P.length ∧ (∀ x ∈ (St P By iv pre).1, x < 256) ∧ (∀ x ∈ (St P By iv pre).2, x < 256) := by
  unfold St
  suffices h : ∀ (s : List Nat × List Nat), (s.1.length = P.length ∧ s.2.length = P.length ∧ (∀ x ∈ s.1, x < 256) ∧ (∀ x ∈ s.2, x < 256)) →
      (pre.foldl (fun s p => dstep By iv s p.1.1) s).1.length = P.length ∧ (pre.foldl (fun s p => dstep By iv s p.1.1) s).2.length = P.length ∧ (∀ x ∈ (pre.foldl (fun s p => dstep By iv s p.1.1) s).1, x < 256) ∧ (∀ x ∈ (pre.foldl (fun s p => dstep By iv s p.1.1) s).2, x < 256) from
    h _ ⟨by simp, rfl, by intro x hx; simp at hx; omega, hP⟩
  induction pre with
  | nil => intro s h; exact h
  | cons p r ih =>
    intro s h
    refine ih _ ⟨by simp [dstep, h.1], by simp [dstep, addAt_len, h.2.1], ?_, addAt_lt h.2.2.2 hB _ _⟩
    intro x hx
    rcases List.mem_or_eq_of_mem_set hx with hx | hx
    · exact h.2.2.1 x hx
    · rw [hx]; exact Gf.gm_lt (getD_lt h.2.2.2 _)
/-- where the lists of a division lie while it goes on -/
structure DivI (w : World) (byh : Value) (gq : Nat) (ar : Option Addr) (cr n T V : Nat) (top : Int) (iv : Nat) (s : List Nat × List Nat) (W : World) : Prop where
  by_ : W.cell? ⟨w.heap.size, 0, none⟩ = some byh
  hq : W.cell? ⟨w.heap.size + 1, 0, none⟩ = some (.slice (some ⟨gq, 0, none⟩) n n)
  fq : W.frozen? ⟨w.heap.size + 1, 0, none⟩ = false
  hr : W.cell? ⟨w.heap.size + 1 + 1, 0, none⟩ = some (.slice ar n cr)
  fr : W.frozen? ⟨w.heap.size + 1 + 1, 0, none⟩ = false
  tp : W.cell? ⟨T, 0, none⟩ = some (.int .i64 top)
  vl : W.cell? ⟨V, 0, none⟩ = some (.int .u8 iv)
  quo : W.heap[gq]? = some (.cells (cellsB s.1).toArray 5 (0, 0))
  rest : n = 0 ∨ ∃ gr cur, ar = some ⟨gr, 0, none⟩ ∧ W.heap[gr]? = some (.cells cur 5 (0, 0)) ∧ ∀ j, j < n → cur[j]? = some (.int .u8 (s.2[j]?.getD 0 : Nat))
theorem heap_kept {W W' : World} {row : Option Nat} {g : Nat} {c : Array Value} {t : TypeId} {f : Nat × Nat} (h : W.heap[g]? = some (.cells c t f)) (hg : W.grownBy W' row) (hr : ∀ r, row = some r → ∃ o : Obj, W.heap[r]? = some o ∧ o.isCells = false) : W'.heap[g]? = some (.cells c t f) := by
  have hlt := (Array.getElem?_eq_some_iff.1 h).1
  have hne : row ≠ some g := by
    intro e
    obtain ⟨o, ho1, ho2⟩ := hr g e
    rw [h] at ho1
    cases ho1
    cases ho2
  exact (hg.block g hlt (fun e => hne e.symm)).trans h
theorem DivI.own (w : World) (byh : Value) (gq : Nat) (ar : Option Addr) (cr n T V : Nat) (top : Int) (iv : Nat) {W W' : World} {row : Option Nat} {s : List Nat × List Nat} (h : DivI w byh gq ar cr n T V top iv s W) (hg : W.grownBy W' row) (hr : ∀ r, row = some r → ∃ o : Obj, W.heap[r]? = some o ∧ o.isCells = false) : DivI w byh gq ar cr n T V top iv s W' :=
  ⟨cell_kept h.by_ hg hr, cell_kept h.hq hg hr, (frozen_kept h.hq hg hr).trans h.fq, cell_kept h.hr hg hr, (frozen_kept h.hr hg hr).trans h.fr, cell_kept h.tp hg hr, cell_kept h.vl hg hr, heap_kept h.quo hg hr,
    by
      rcases h.rest with h0 | ⟨gr, cur, e1, e2, e3⟩
      · exact .inl h0
      · exact .inr ⟨gr, cur, e1, heap_kept e2 hg hr, e3⟩⟩
def KpD (BX : Nat) (ar : Option Addr) (n cr : Nat) (W W' : World) : Prop := ∀ gr, ar = some ⟨gr, 0, none⟩ → Rd BX gr 0 n cr LtB W → Rd BX gr 0 n cr LtB W'
theorem KpD.trans {BX n cr : Nat} {ar : Option Addr} {A B C : World} (h : KpD BX ar n cr A B) (k : KpD BX ar n cr B C) : KpD BX ar n cr A C := fun gr e hr => k gr e (h gr e hr)
theorem KpD.put {BX n cr : Nat} {ar : Option Addr} {w : World} (hB : BX < w.heap.size) (hg : ∀ gr, ar = some ⟨gr, 0, none⟩ → gr < w.heap.size) (W : World) (l : Nat) (o o' : Obj) (hl : w.heap.size ≤ l) (h : W.heap[l]? = some o) (h1 : o.isCells = false) (h2 : o.isWalk = false) : KpD BX ar n cr W (W.putObj l o') := by
  intro gr e hr
  have hb := belowK_b (Nat.le_refl _) W l o o' hl h h1 h2
  refine ⟨(hb.cell (p := ⟨BX, 0, none⟩) hB).trans hr.1, fun j hj => ?_⟩
  obtain ⟨v, hv1, hv2⟩ := hr.2 j hj
  exact ⟨v, hv1, (hb.cell (p := ⟨gr, 0 + j, none⟩) (hg gr e)).trans hv2⟩
theorem back_stopsD (n : Nat) (hn : 1 ≤ n) (BX : Nat) (ar : Option Addr) (m cr : Nat) (hm : m ≤ 140737488351232) (w : World) (hBX : BX < w.heap.size)
    (hc : w.cell? ⟨BX, 0, none⟩ = some (.slice ar m cr)) (hI : m = 0 ∨ ∃ gr, ar = some ⟨gr, 0, none⟩ ∧ gr < w.heap.size ∧ ∀ j, j < m → ∃ v : Nat, v < 256 ∧ w.cell? ⟨gr, 0 + j, none⟩ = some (.int .u8 v)) :
    SeqStopsK Fence.wide n Try.prog 23 #[.pointer (some ⟨BX, 0, none⟩)] (fun x : PB m LtB => #[Value.int .i64 (x.1.1 : Nat), Value.int .u8 (x.1.2 : Nat)]) (KpD BX ar m cr) (fun ys => ys.length = m ∧ Seqd ys)
      (fun pre => pre.length ≤ m ∧ Seqd pre) m w := fun l J Jx W hW _ _ hY h0 => by
  have hc' := (hW.cell (p := ⟨BX, 0, none⟩) hBX).trans hc
  rcases hI with rfl | ⟨gr, rfl, hg, hcs⟩
  · exact (back1_nil n l BX ar cr J W hc' h0).mono fun e W' ⟨he, hj⟩ => ⟨he, .inl ⟨[], ⟨rfl, Seqd.nil⟩, hj⟩⟩
  · refine back1_in n hn l BX gr 0 m cr LtB hm (KpD BX (some ⟨gr, 0, none⟩) m cr) (fun W W' h hr => h gr rfl hr) J Jx hY W ⟨hc', fun j hj => ?_⟩ h0
    obtain ⟨v, hv1, hv2⟩ := hcs j hj
    exact ⟨v, hv1, (hW.cell (p := ⟨gr, 0 + j, none⟩) hg).trans hv2⟩
theorem DivI.by_only {w : World} {byh : Value} {gq : Nat} {ar : Option Addr} {cr n T V : Nat} {top : Int} {iv : Nat} {s : List Nat × List Nat} {W W' : World} {g : Nat} {o : Obj} (h : DivI w byh gq ar cr n T V top iv s W) (hO : OnlyAt g o W W') (h1 : w.heap.size + 1 + 1 < g) (h2 : g < T) (h3 : g < V)
    {s' : List Nat × List Nat} (hq : W'.heap[gq]? = some (.cells (cellsB s'.1).toArray 5 (0, 0))) (hr : n = 0 ∨ ∃ gr cur, ar = some ⟨gr, 0, none⟩ ∧ W'.heap[gr]? = some (.cells cur 5 (0, 0)) ∧ ∀ j, j < n → cur[j]? = some (.int .u8 (s'.2[j]?.getD 0 : Nat))) :
    DivI w byh gq ar cr n T V top iv s' W' :=
  ⟨(hO.cell (p := ⟨w.heap.size, 0, none⟩) (by show w.heap.size ≠ g; omega)).trans h.by_, (hO.cell (p := ⟨w.heap.size + 1, 0, none⟩) (by show w.heap.size + 1 ≠ g; omega)).trans h.hq,
    (World.frozen?_of_block (w := W) (a := ⟨w.heap.size + 1, 0, none⟩) (hO.block (w.heap.size + 1) (by omega))).trans h.fq, (hO.cell (p := ⟨w.heap.size + 1 + 1, 0, none⟩) (by show w.heap.size + 1 + 1 ≠ g; omega)).trans h.hr,
    (World.frozen?_of_block (w := W) (a := ⟨w.heap.size + 1 + 1, 0, none⟩) (hO.block (w.heap.size + 1 + 1) (by omega))).trans h.fr, (hO.cell (p := ⟨T, 0, none⟩) (by show T ≠ g; omega)).trans h.tp, (hO.cell (p := ⟨V, 0, none⟩) (by show V ≠ g; omega)).trans h.vl, hq, hr⟩
theorem cellsB_set (L : List Nat) (k f : Nat) : (cellsB L).toArray.setIfInBounds k (.int .u8 (f : Nat)) = (cellsB (L.set k f)).toArray := by
  simp [cellsB, List.map_set]
theorem DivI.setq {w : World} {byh : Value} {gq : Nat} {ar : Option Addr} {cr n T V : Nat} {top : Int} {iv : Nat} {s : List Nat × List Nat} {W : World} (h : DivI w byh gq ar cr n T V top iv s W) (h1 : w.heap.size + 1 + 1 < gq) (h2 : gq < T) (h3 : gq < V) (hne : n ≠ 0 → ∀ gr, ar = some ⟨gr, 0, none⟩ → gr ≠ gq) (k f : Nat) :
    DivI w byh gq ar cr n T V top iv (s.1.set k f, s.2) (W.setCell ⟨gq, k, none⟩ (.int .u8 (f : Nat))) := by
  have hO := (OnlyAt.refl h.quo).set (i := k) (.int .u8 (f : Nat))
  refine h.by_only hO h1 h2 h3 (by rw [← cellsB_set]; exact hO.at_) ?_
  rcases h.rest with h0 | ⟨gr, cur, e1, e2, e3⟩
  · exact .inl h0
  · by_cases hn : n = 0
    · exact .inl hn
    · exact .inr ⟨gr, cur, e1, (hO.block gr (hne hn gr e1)).trans e2, e3⟩
theorem DivI.drew {w : World} {byh : Value} {gq : Nat} {ar : Option Addr} {cr n T V : Nat} {top : Int} {iv : Nat} {s : List Nat × List Nat} {W : World} (h : DivI w byh gq ar cr n T V top iv s W) : DivI w byh gq ar cr n T V top iv s W.drew :=
  ⟨h.by_, h.hq, h.fq, h.hr, h.fr, h.tp, h.vl, h.quo, h.rest⟩
theorem DivI.addr {w : World} {byh : Value} {gq gr : Nat} {cr n T V : Nat} {top : Int} {iv : Nat} {s : List Nat × List Nat} {W W' : World} {cur : Array Value} {By : List Nat} {k f : Nat} (h : DivI w byh gq (some ⟨gr, 0, none⟩) cr n T V top iv s W) (hs : s.2.length = n)
    (hcur : ∀ j, j < n → cur[j]? = some (.int .u8 (s.2[j]?.getD 0 : Nat))) (hO : OnlyAt gr (.cells (upd cur k (fun j => s.2[k + j]?.getD 0 ^^^ Gf.gm (By[j]?.getD 0) f) By.length) 5 (0, 0)) W W')
    (h1 : w.heap.size + 1 + 1 < gr) (h2 : gr < T) (h3 : gr < V) (hne : gr ≠ gq) : DivI w byh gq (some ⟨gr, 0, none⟩) cr n T V top iv (s.1, addAt s.2 k By f) W' := by
  refine h.by_only hO h1 h2 h3 ((hO.block gq (fun e => hne e.symm)).trans h.quo) (.inr ⟨gr, _, rfl, hO.at_, fun j hj => ?_⟩)
  have hsz : j < cur.size := by
    have := hcur j hj
    exact (Array.getElem?_eq_some_iff.1 this).1
  rw [upd_get, addAt_get (by omega)]
  by_cases c : k ≤ j ∧ j < k + By.length
  · rw [if_pos ⟨c.1, c.2, hsz⟩, if_pos c, show k + (j - k) = j by omega]
  · rw [if_neg (fun d => c ⟨d.1, d.2.1⟩), if_neg c, hcur j hj]
theorem OnlyAt.keeps {g : Nat} {o : Obj} {W W' : World} (h : OnlyAt g o W W') {c : Array Value} {t : TypeId} {f : Nat × Nat} (hg : W.heap[g]? = some (.cells c t f)) : KeepsOthers W W' :=
  ⟨by rw [h.size]; exact Nat.le_refl _, fun k o' hk ho => by
    by_cases e : k = g
    · subst e; rw [hg] at hk; cases hk; cases ho
    · exact (h.block k e).trans hk⟩
theorem OnlyAt.of_drew {g : Nat} {o : Obj} {W W' : World} (h : OnlyAt g o W.drew W') : OnlyAt g o W W' := ⟨h.os, h.tape, h.output, h.size, h.block, h.at_⟩
section
variable {F : Fence} {n : Nat} {P : Program} {ops : Array Oper} {Q : Exit → Act → World → Prop} {md : Region.Mode} {l : Nat}
/-- In a round an operation that is no defer statement runs as everywhere. -/
theorem oper_round (hro : F.round = none) {o : Oper} (hd : ∀ c, o.op ≠ .defer c) (a : Act) (w : World) (K : Act → World → Prop) : o.wpIn F n P a w K Q ↔ o.wpIn (F.inRound l) n P a w K Q := by
  unfold Oper.wpIn
  rw [hro, Oper.semAt_eq _ _ _ hd, Oper.semAt_eq _ _ _ hd]
  generalize (execOp a.eval o).run P w = r
  cases r with
  | ok x w' => cases x <;> exact Iff.rfl
  | halt x w' => cases x <;> exact Iff.rfl
theorem op_round (hro : F.round = none) (hd : ∀ (i : Nat) (o : Oper), ops[i]? = some o → ∀ c, o.op ≠ .defer c) (i : Nat) (K : Act → World → Prop) (a : Act) (w : World) : wpOpIn F n P ops Q i K a w ↔ wpOpIn (F.inRound l) n P ops Q i K a w := by
  unfold wpOpIn
  cases ho : ops[i]? with
  | none => exact Iff.rfl
  | some o =>
    dsimp only
    by_cases hw : Region.wanted o (yielded ops a.tmps) = true
    · rw [if_pos hw, if_pos hw]; exact oper_round hro (hd i o ho) a w K
    · rw [if_neg hw, if_neg hw]; exact Iff.rfl
theorem any_round (hro : F.round = none) (hd : ∀ (i : Nat) (o : Oper), ops[i]? = some o → ∀ c, o.op ≠ .defer c) : ∀ (fuel : Nat) (listed : Array Bool) (a : Act) (w : World), wpAnyIn F n P md ops Q fuel listed a w ↔ wpAnyIn (F.inRound l) n P md ops Q fuel listed a w
  | 0, _, _, _ => Iff.rfl
  | fuel + 1, listed, a, w => by
    have ih : ∀ i, wpAnyIn F n P md ops Q fuel (listed.setIfInBounds i true) = wpAnyIn (F.inRound l) n P md ops Q fuel (listed.setIfInBounds i true) := fun i => by
      funext a' w'
      exact propext (any_round hro hd fuel _ a' w')
    unfold wpAnyIn
    constructor
    · rintro ⟨h1, h2⟩
      exact ⟨h1, fun i hi => by rw [← ih i]; exact (op_round hro hd i _ a w).1 (h2 i hi)⟩
    · rintro ⟨h1, h2⟩
      exact ⟨h1, fun i hi => by rw [ih i]; exact (op_round hro hd i _ a w).2 (h2 i hi)⟩
/-- no operation of these is a defer statement -/
def noDefer (ops : List Oper) : Bool := ops.all fun o => match o.op with
  | .defer _ => false
  | _ => true
theorem noDefer_spec {ops : List Oper} (h : noDefer ops = true) : ∀ (i : Nat) (o : Oper), ops.toArray[i]? = some o → ∀ c, o.op ≠ .defer c := by
  intro i o ho c e
  rw [List.getElem?_toArray] at ho
  have hm := List.mem_of_getElem? ho
  unfold noDefer at h
  rw [List.all_eq_true] at h
  have := h o hm
  rw [e] at this
  cases this
theorem region_quiet_round {id : Nat} {a : Act} {w : World} {ls : List Oper} (hro : F.round = none) (hm : P.follows .mixedOrders = true) (hd : noDefer ls = true) (hB : Region.lexB .any ls.toArray = true)
    (h : wpQuietIn F n P ls.toArray (fun w' => ∃ n, w' = w.drewN n) (fun a' => ∀ w', (∃ n, w' = w.drewN n) → Q .normal a' w') ls a) : (Code.region id ls.toArray true).wpIn (F.inRound l) n P Q a w := by
  simp only [Region.lexB, Bool.and_eq_true] at hB
  refine wpIn_region_any hm ((any_round hro (noDefer_spec hd) _ _ _ _).1 (wpAnyIn_of_quiet (C := fun w' => ∃ n, w' = w.drewN n) (Q := fun a' => ∀ w', (∃ n, w' = w.drewN n) → Q .normal a' w') hro (fun _ w' hw' h => h w' hw') _ _ _ _ ⟨1, rfl⟩ ?_))
  have := wpAnyQIn_lex (F := F) (n := n) (C := fun w' => ∃ n, w' = w.drewN n) (md := .any) hB.1 ls.toArray.toList 0 (Array.replicate ls.toArray.size false) a (by simp) (by simpa using hB.2) (by simpa using h)
  simpa using this
theorem region_any_round {id : Nat} {a : Act} {w : World} {ls : List Oper} (hro : F.round = none) (hm : P.follows .mixedOrders = true) (hd : noDefer ls = true)
    (h : wpAnyIn F n P .any ls.toArray Q ls.toArray.size (Array.replicate ls.toArray.size false) a w.drew) : (Code.region id ls.toArray true).wpIn (F.inRound l) n P Q a w :=
  wpIn_region_any hm ((any_round hro (noDefer_spec hd) _ _ _ _).1 h)
end
/-- what a division makes: quotient and rest -/
def dfin (P By : List Nat) (iv : Nat) : List Nat × List Nat := (List.range (P.length - (By.length - 1))).foldl (fun s k => dstep By iv s (P.length - 1 - k)) (List.replicate P.length 0, P)
theorem St_places {n : Nat} (P By : List Nat) (iv : Nat) {pre : List (PB n LtB)} (h : Seqd pre) : St P By iv pre = (List.range pre.length).foldl (fun s k => dstep By iv s (n - 1 - k)) (List.replicate P.length 0, P) := by
  have e : pre.map (fun p => p.1.1) = (List.range pre.length).map (fun k => n - 1 - k) := by
    apply List.ext_getElem (by simp)
    intro i h1 h2
    rw [List.getElem_map, List.getElem_map, List.getElem_range]
    have hi : i < pre.length := by simpa using h1
    exact h i pre[i] (List.getElem?_eq_getElem hi)
  have e2 : St P By iv pre = (pre.map (fun p => p.1.1)).foldl (fun s i => dstep By iv s i) (List.replicate P.length 0, P) := by simp [St, List.foldl_map]
  rw [e2, e, List.foldl_map]
theorem St_done {P By : List Nat} {iv : Nat} {ys : List (PB P.length LtB)} (h : ys.length = P.length ∧ Seqd ys) (hp : ∀ q ∈ ys, By.length - 1 ≤ q.1.1) : St P By iv ys = dfin P By iv := by
  rw [St_places P By iv h.2, h.1]
  unfold dfin
  by_cases h0 : P.length = 0
  · rw [h0]; simp
  · have hl : ys.length - 1 < ys.length := by omega
    have h1 := h.2 (ys.length - 1) ys[ys.length - 1] (List.getElem?_eq_getElem hl)
    have h2 := hp ys[ys.length - 1] (List.getElem_mem hl)
    have h3 : By.length - 1 = 0 := by omega
    rw [h3, Nat.sub_zero]
theorem Seqd.init {n : Nat} {Val : Nat → Nat → Prop} {ini : List (PB n Val)} {last : PB n Val} (h : Seqd (ini ++ [last])) : Seqd ini := by
  intro i x hx
  have hi := (List.getElem?_eq_some_iff.1 hx).1
  exact h i x (by rw [List.getElem?_append_left hi]; exact hx)
theorem St_stop {P By : List Nat} {iv : Nat} {pre ini : List (PB P.length LtB)} {last : PB P.length LtB} (h : pre.length ≤ P.length ∧ Seqd pre) (e1 : pre = ini ++ [last]) (e2 : ∀ q ∈ ini, By.length - 1 ≤ q.1.1) (e3 : last.1.1 < By.length - 1) : St P By iv ini = dfin P By iv := by
  subst e1
  rw [St_places P By iv h.2.init]
  unfold dfin
  have hl : last.1.1 = P.length - 1 - ini.length := h.2 ini.length last (by simp)
  have hlen := h.1
  rw [List.length_append, List.length_singleton] at hlen
  have e : ini.length = P.length - (By.length - 1) := by
    by_cases h0 : ini.length = 0
    · omega
    · have hk : ini.length - 1 < ini.length := by omega
      have h1 := h.2.init (ini.length - 1) ini[ini.length - 1] (List.getElem?_eq_getElem hk)
      have h2 := e2 ini[ini.length - 1] (List.getElem_mem hk)
      omega
  rw [e]
theorem DivI.bq {w : World} {byh : Value} {gq : Nat} {ar : Option Addr} {cr n T V : Nat} {top : Int} {iv : Nat} {s : List Nat × List Nat} {W : World} (h : DivI w byh gq ar cr n T V top iv s W) (hs : s.1.length = n) (hl : ∀ x ∈ s.1, x < 256) (hn : n ≤ 1000) : Bs W.heap.size W (.slice (some ⟨gq, 0, none⟩) n n) s.1 := by
  refine ⟨hl, by omega, _, _, by rw [hs], by omega, by simp, .inr ⟨gq, 0, rfl, (Array.getElem?_eq_some_iff.1 h.quo).1, fun j hj => ?_⟩⟩
  rw [Nat.zero_add]
  simp only [World.cell?, h.quo]
  rw [if_neg (by simp), List.getElem?_toArray, cellsB_get hj]
theorem DivI.br {w : World} {byh : Value} {gq : Nat} {ar : Option Addr} {cr n T V : Nat} {top : Int} {iv : Nat} {s : List Nat × List Nat} {W : World} (h : DivI w byh gq ar cr n T V top iv s W) (hs : s.2.length = n) (hl : ∀ x ∈ s.2, x < 256) (hn : n ≤ 1000) (hc : n ≤ cr ∧ (ar = none → cr = 0)) : Bs W.heap.size W (.slice ar n cr) s.2 := by
  refine ⟨hl, by omega, _, _, by rw [hs], by omega, hc.2, ?_⟩
  rcases h.rest with h0 | ⟨gr, cur, e1, e2, e3⟩
  · left; exact List.eq_nil_of_length_eq_zero (by omega)
  · refine .inr ⟨gr, 0, e1, (Array.getElem?_eq_some_iff.1 e2).1, fun j hj => ?_⟩
    rw [Nat.zero_add]
    simp only [World.cell?, e2]
    rw [if_neg (by simp)]
    exact e3 j (by omega)
theorem dfin_ok {P By : List Nat} {iv : Nat} (hP : ∀ x ∈ P, x < 256) (hB : ∀ x ∈ By, x < 256) :
    (dfin P By iv).1.length = P.length ∧ (dfin P By iv).2.length = P.length ∧ (∀ x ∈ (dfin P By iv).1, x < 256) ∧ (∀ x ∈ (dfin P By iv).2, x < 256) := by
  unfold dfin
  generalize List.range (P.length - (By.length - 1)) = pre
  suffices h : ∀ (s : List Nat × List Nat), (s.1.length = P.length ∧ s.2.length = P.length ∧ (∀ x ∈ s.1, x < 256) ∧ (∀ x ∈ s.2, x < 256)) →
      (pre.foldl (fun s k => dstep By iv s (P.length - 1 - k)) s).1.length = P.length ∧ (pre.foldl (fun s k => dstep By iv s (P.length - 1 - k)) s).2.length = P.length ∧ (∀ x ∈ (pre.foldl (fun s k => dstep By iv s (P.length - 1 - k)) s).1, x < 256) ∧ (∀ x ∈ (pre.foldl (fun s k => dstep By iv s (P.length - 1 - k)) s).2, x < 256) from
    h _ ⟨by simp, rfl, by intro x hx; simp at hx; omega, hP⟩
  induction pre with
  | nil => intro s h; exact h
  | cons p r ih =>
    intro s h
    refine ih _ ⟨by simp [dstep, h.1], by simp [dstep, addAt_len, h.2.1], ?_, addAt_lt h.2.2.2 hB _ _⟩
    intro x hx
    rcases List.mem_or_eq_of_mem_set hx with hx | hx
    · exact h.2.2.1 x hx
    · rw [hx]; exact Gf.gm_lt (getD_lt h.2.2.2 _)
/-- between two rounds of a division -/
def DivInv (w : World) (byh : Value) (gq : Nat) (ar : Option Addr) (cr : Nat) (P By : List Nat) (T V iv : Nat) (pre : List (PB P.length LtB)) (W : World) : Prop :=
  ((∀ q ∈ pre, By.length - 1 ≤ q.1.1) ∧ DivI w byh gq ar cr P.length T V ((By.length : Int) - 1) iv (St P By iv pre) W) ∧ Below w.heap.size w W
/-- where a round of a division has left the loop -/
def DivOut (w : World) (byh : Value) (gq : Nat) (ar : Option Addr) (cr : Nat) (P By : List Nat) (T V iv : Nat) (c : Code) (pre : List (PB P.length LtB)) (W : World) : Prop :=
  (c = .exit 0 ∧ ∃ ini last, pre = ini ++ [last] ∧ (∀ q ∈ ini, By.length - 1 ≤ q.1.1) ∧ last.1.1 < By.length - 1 ∧ DivI w byh gq ar cr P.length T V ((By.length : Int) - 1) iv (St P By iv ini) W) ∧ Below w.heap.size w W
theorem DivInv.own (w : World) (byh : Value) (gq : Nat) (ar : Option Addr) (cr : Nat) (P By : List Nat) (T V iv : Nat) {B : Nat} (hB : w.heap.size ≤ B) : OwnFrom B (DivInv w byh gq ar cr P By T V iv) :=
  OwnFrom.and (Own.from (fun _ _ _ _ hs hg hr => ⟨hs.1, DivI.own _ _ _ _ _ _ _ _ _ _ hs.2 hg hr⟩) _) (ownFrom_below (Nat.le_refl _) hB)
theorem DivOut.own (w : World) (byh : Value) (gq : Nat) (ar : Option Addr) (cr : Nat) (P By : List Nat) (T V iv : Nat) {B : Nat} (hB : w.heap.size ≤ B) (c : Code) : OwnFrom B (DivOut w byh gq ar cr P By T V iv c) :=
  OwnFrom.and (Own.from (fun _ _ _ _ hs hg hr => by obtain ⟨hc, ini, last, e1, e2, e3, e4⟩ := hs; exact ⟨hc, ini, last, e1, e2, e3, DivI.own _ _ _ _ _ _ _ _ _ _ e4 hg hr⟩) _) (ownFrom_below (Nat.le_refl _) hB)
end Go.Proofs.Ytlccdceeppfleab
