/- What poly.Value answers: the value of a polynomial, for every list of bytes and every byte. -/
import Derived.Test.YtlccdceeppfleabBack
namespace Go.Proofs.Ytlccdceeppfleab
open Go.ChangeShapes Go.WideShapes Go.ChangeAt Go.RowKit Go.Shelf
attribute [local go_sem] Oper.semAt_some
def vB {len : Nat} {Val : Nat → Nat → Prop} (x : Nat) (pre : List (PB len Val)) : Nat := pre.foldl (fun v p => Gf.gm v x ^^^ p.1.2) 0
theorem vB_snoc {len : Nat} {Val : Nat → Nat → Prop} (x : Nat) (pre : List (PB len Val)) (p : PB len Val) : vB x (pre ++ [p]) = Gf.gm (vB x pre) x ^^^ p.1.2 := by simp [vB]
/-- the value of a polynomial, by Horner's way -/
def pval (zs : List Nat) (x : Nat) : Nat := zs.foldr (fun f v => Gf.gm v x ^^^ f) 0
theorem seqd_rev {zs : List Nat} {ys : List (PB zs.length (AtZ zs))} (h : ys.length = zs.length ∧ Seqd ys) : ys.map (fun p => p.1.2) = zs.reverse := by
  apply List.ext_getElem (by simp [h.1])
  intro i h1 h2
  rw [List.getElem_map, List.getElem_reverse]
  have hi : i < ys.length := by simpa using h1
  have e1 := h.2 i ys[i] (List.getElem?_eq_getElem hi)
  have e2 : ys[i].1.2 = zs[ys[i].1.1]?.getD 0 := ys[i].2.2
  refine e2.trans ?_
  rw [e1, List.getElem?_eq_getElem (by omega)]
  rfl
theorem vB_all {zs : List Nat} {ys : List (PB zs.length (AtZ zs))} (x : Nat) (h : ys.length = zs.length ∧ Seqd ys) : vB x ys = pval zs x := by
  have e : vB x ys = (ys.map (fun p => p.1.2)).foldl (fun v f => Gf.gm v x ^^^ f) 0 := by simp [vB, List.foldl_map]
  rw [e, seqd_rev h, List.foldl_reverse]
  rfl
theorem atZ_lt {zs : List Nat} (hz : ∀ x ∈ zs, x < 256) (p : PB zs.length (AtZ zs)) : p.1.2 < 256 := by
  have e2 : p.1.2 = zs[p.1.1]?.getD 0 := p.2.2
  rw [e2, List.getElem?_eq_getElem p.2.1]
  exact hz _ (List.getElem_mem _)
theorem vB_lt {zs : List Nat} (hz : ∀ x ∈ zs, x < 256) (x : Nat) (pre : List (PB zs.length (AtZ zs))) : vB x pre < 256 := by
  unfold vB
  suffices h : ∀ (v : Nat), v < 256 → pre.foldl (fun v p => Gf.gm v x ^^^ p.1.2) v < 256 from h 0 (by decide)
  induction pre with
  | nil => intro v hv; exact hv
  | cons p r ih =>
    intro v hv
    exact ih _ (Gf.xlt (Gf.gm_lt hv) (atZ_lt hz p))
set_option maxRecDepth 100000 in
set_option maxHeartbeats 2000000 in
theorem value_in (a : Option Addr) (len cap : Nat) (x : Nat) (hx : x ≤ 255) (zs : List Nat) (w : World) (hI : Bs w.heap.size w (.slice a len cap) zs) :
    CallsIn Fence.wide 5 Try.prog 7 #[.slice a len cap, .int .u8 x] w fun e W' => e = .returned (.int .u8 (pval zs x)) ∧ Below w.heap.size w W' := by
  refine callsIn_of_wp_marks Try.func7 rfl trivial ?_ rfl
  simp only [Try.ntmps7, List.size_toArray, List.length_cons, List.length_nil, Nat.reduceAdd, Nat.reduceSub, Array.replicate_succ, Array.replicate_zero, List.push_toArray, List.append_toArray, List.nil_append, List.cons_append]
  have HI : Hid (Bs w.heap.size w (.slice a len cap) zs) := hI
  clear hI
  gi_wp2_with (refine ⟨trivial, ?_⟩; gi_at_call 15; refine (back_in _ _ _ _ _).mono ?_; rintro e w' ⟨rfl, rfl⟩)
  have bX := Boxed.new w 5 (.int .u8 x)
  have bV := Boxed.new (w.alloc (.cells #[.int .u8 x] 5)) 5 (.int .u8 0)
  have bN := Boxed.new ((w.alloc (.cells #[.int .u8 x] 5)).alloc (.cells #[.int .u8 0] 5)) 22 (.slice a len cap)
  simp only [World.size_alloc] at bV bN
  have hB0 : Below w.heap.size w (((w.alloc (.cells #[.int .u8 x] 5)).alloc (.cells #[.int .u8 0] 5)).alloc (.cells #[.slice a len cap] 22)) := (((Below.refl _ w).alloc (Nat.le_refl _) _).alloc (by simp) _).alloc (by simp; omega) _
  refine wpIn_rangeFunc_ownG rfl (by decide) (gf := 23) (lb := #[.pointer (some ⟨w.heap.size + 1 + 1, 0, none⟩)]) rfl trivial (enters_of Try.func23 (by kernel_rfl) rfl)
    (back_stops 4 (by decide) (w.heap.size + 1 + 1) w.heap.size _ zs _ (by simp) (by simp; omega) bN.cell (HI.out.below hB0)) KpB.trans (KpB.put (by simp; omega) (by simp)) (Below.refl _ _) (fun _ => rfl)
    (fun pre W => (W.cell? ⟨w.heap.size, 0, none⟩ = some (.int .u8 x) ∧ W.cell? ⟨w.heap.size + 1, 0, none⟩ = some (.int .u8 (vB x pre)) ∧ W.frozen? ⟨w.heap.size + 1, 0, none⟩ = false) ∧ Below w.heap.size w W)
    (fun _ _ _ => False)
    (OwnFrom.and (Own.from (fun s A B row hs hg hr => ⟨cell_kept hs.1 hg hr, cell_kept hs.2.1 hg hr, (frozen_kept hs.2.1 hg hr).trans hs.2.2⟩) _) (ownFrom_below (Nat.le_refl _) (by simp; omega)))
    (fun _ _ _ _ _ hs _ _ => hs)
    ⟨⟨((bX.alloc _).alloc _).cell, (bV.alloc _).cell, (bV.alloc _).frozen⟩, hB0⟩
    (fun p => { tmps := #[.slice a len cap, .int .u8 x, undef, .pointer (some ⟨w.heap.size, 0, none⟩), .int .u8 0, .pointer (some ⟨w.heap.size + 1, 0, none⟩), undef, .int .u8 (p.1.2 : Nat), .slice a len cap, .func (.func 23) #[] #[.pointer (some ⟨w.heap.size + 1 + 1, 0, none⟩)], .int .i64 (p.1.1 : Nat), .int .u8 (p.1.2 : Nat), undef, undef, undef, undef, undef, undef], defers := [] }) ?assign ?body ?done ?stop
  case assign =>
    intro l p W K hK
    gi_wp2
    exact hK
  case body =>
    rintro l pre p W ⟨⟨hcx, hcv, hfv⟩, hB⟩ _
    have h1 := vB_lt HI.out.1 x pre
    have h2 := atZ_lt HI.out.1 p
    have h3 : Gf.gm (vB x pre) x < 256 := Gf.gm_lt h1
    have hxr := u8_xor_nat _ _ h3 h2
    gi_wp2_with (refine ⟨trivial, ?_⟩; gi_at_call 17; refine (CallsIn.inRound l (callsIn_wide.2 (mul_any _ _ _ (by omega) (by omega) (by omega) (by omega)))).mono ?_; rintro e w1 ⟨rfl, rfl⟩; rw [Int.toNat_natCast, Int.toNat_natCast])
    exact ⟨(KeepsOthers.setCell _ _ _).from _, ⟨(Below.refl w.heap.size _).setCell (p := ⟨w.heap.size + 1, 0, none⟩) (by simp) _, World.cell?_setCell_other _ _ _ _ (by intro c; injection c; omega)⟩,
      ⟨(World.cell?_setCell_other _ _ _ _ (by intro c; injection c; omega)).trans hcx, by rw [vB_snoc]; exact World.cell?_setCell_same' _ _ _ (by rw [hcv]; rfl), by rw [World.frozen?_setCell]; exact hfv⟩, hB.setCell (p := ⟨w.heap.size + 1, 0, none⟩) (by simp) _⟩
  case done =>
    rintro D ys W hD hys ⟨⟨hcx, hcv, hfv⟩, hB⟩ hK
    gi_wp2
    refine ⟨by simp, .inl ⟨_, _, rfl, run_takeDeferred hK, ?_⟩⟩
    exact ⟨_, results_tmp rfl _ _ _, by rw [← vB_all x hys]; rfl, hB.trans (belowK_b (w := w) (Nat.le_refl _) W D _ _ (by simp at hD; omega) hK rfl rfl)⟩
  case stop =>
    rintro D c pre W _ _ h _
    exact h.elim
theorem value_any (v : Value) (x : Int) (hx : 0 ≤ x) (hx' : x ≤ 255) (zs : List Nat) (w : World) (hI : Bs w.heap.size w v zs) :
    Calls Try.prog 7 #[v, .int .u8 x] w fun e W' => e = .returned (.int .u8 (pval zs x.toNat)) ∧ Below w.heap.size w W' := by
  obtain ⟨X, rfl⟩ := Int.eq_ofNat_of_zero_le hx
  have hI' := hI
  obtain ⟨_, _, ao, cap, rfl, _⟩ := hI
  rw [Int.toNat_natCast]
  exact callsIn_wide.1 (value_in ao zs.length cap X (by omega) zs w hI')
end Go.Proofs.Ytlccdceeppfleab
