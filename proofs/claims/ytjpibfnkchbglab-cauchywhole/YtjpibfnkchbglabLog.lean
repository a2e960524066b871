/- What field.logs and field.Log answer, for every byte. -/
import Derived.Test.YtjpibfnkchbglabPower
namespace Go.Proofs.Ytjpibfnkchbglab
open Go.ChangeShapes Go.WideShapes Go.ChangeAt Go.RowKit
def lgTo (k a : Nat) : Nat := if a ≠ 0 ∧ Gf.lg a < k then Gf.lg a else 0
def qL (k : Nat) : List Value := (List.range 256).map fun a => .int .i64 (lgTo k a)
def Z35 : Array Value := (qL 0).toArray
theorem zero35 (w : World) : Sem.run Try.prog (zeroValue 89) w = .ok (.agg Z35) w := by kernel_rfl
theorem und35 : Try.prog.underlying 89 = some (.array 256 3) := by kernel_rfl
theorem info35 : (Try.prog.info? 89).map (·.size) = some 256 := by kernel_rfl
theorem qL_len (k : Nat) : (qL k).length = 256 := by simp [qL]
theorem qL_get {k i : Nat} (h : i < 256) : (qL k)[i]? = some (.int .i64 (lgTo k i)) := by
  simp [qL, h]
theorem lgTo_next {k a : Nat} (hk : k < 255) (ha : a < 256) : lgTo (k + 1) a = if Gf.pw k = a then k else lgTo k a := by
  unfold lgTo
  by_cases e : Gf.pw k = a
  · have h1 := Gf.lg_pw hk
    have h2 := Gf.pw_pos k
    rw [if_pos e, ← e, h1, if_pos ⟨by omega, by omega⟩]
  · rw [if_neg e]
    by_cases h0 : a = 0
    · simp [h0]
    · have h3 := Gf.pw_lg ha h0
      have h4 : Gf.lg a ≠ k := fun c => e (by rw [← c]; exact h3)
      by_cases h5 : Gf.lg a < k
      · rw [if_pos ⟨h0, by omega⟩, if_pos ⟨h0, h5⟩]
      · rw [if_neg (fun c => by omega), if_neg (fun c => h5 c.2)]
theorem qL_set {k : Nat} (hk : k < 255) : (qL k).set (Gf.pw k) (.int .i64 k) = qL (k + 1) := by
  apply List.ext_getElem (by simp [qL])
  intro i h1 h2
  have hi : i < 256 := by rw [qL_len] at h2; exact h2
  simp only [qL, List.getElem_set, List.getElem_map, List.getElem_range]
  rw [lgTo_next hk hi]
  split <;> rfl
theorem lgTo_all {a : Nat} (ha : a < 256) : lgTo 255 a = Gf.lg a := by
  unfold lgTo
  by_cases h0 : a = 0
  · rw [h0]; decide
  · rw [if_pos ⟨h0, Gf.lg_lt ha h0⟩]
theorem one_qL (k : Nat) : ((qL k).toArray.all fun x => x.oneCell') = true := by
  refine all_oneCell_toArray fun v hv => ?_
  simp only [qL, List.mem_map] at hv
  obtain ⟨i, _, rfl⟩ := hv
  rfl
theorem size_qL (k : Nat) : (qL k).toArray.size = 256 := by rw [List.size_toArray, qL_len]
theorem range_set {w : World} {b : Nat} {cs : List Value} (h : w.rangeAt b 0 cs) (i : Nat) (v : Value) : (w.setCell ⟨b, i, none⟩ v).rangeAt b 0 (cs.set i v) := by
  intro j u hj
  have hj' : j < (cs.set i v).length := (List.getElem?_eq_some_iff.1 hj).1
  rw [List.length_set] at hj'
  have h0 := h j cs[j] (List.getElem?_eq_getElem hj')
  rw [Nat.zero_add] at h0 ⊢
  rw [List.getElem?_set] at hj
  by_cases e : i = j
  · subst e
    rw [World.cell?_setCell_same _ _ _ h0]
    simpa [hj'] using hj
  · rw [World.cell?_setCell_other _ _ _ _ (by intro c; cases c; exact e rfl), h0]
    simpa [e, hj'] using hj
theorem there_set {w : World} {b n : Nat} (h : w.there b 0 n) (p : Addr) (v : Value) : (w.setCell p v).there b 0 n := by
  intro j hj
  refine ⟨?_, by rw [World.frozen?_setCell]; exact (h j hj).2⟩
  obtain ⟨u, hu⟩ := Option.isSome_iff_exists.1 (h j hj).1
  by_cases e : p = ⟨b, 0 + j, none⟩
  · subst e; rw [World.cell?_setCell_same _ _ _ hu]; rfl
  · rw [World.cell?_setCell_other _ _ _ _ e, hu]; rfl
theorem there_below {B n m : Nat} {w w' : World} (h : w.there n 0 m) (hb : Below B w w') (hn : n < B) : w'.there n 0 m := by
  intro j hj
  rw [hb.cell (p := ⟨n, 0 + j, none⟩) hn, hb.frozen (p := ⟨n, 0 + j, none⟩) hn]
  exact h j hj
theorem range_below {B n : Nat} {w w' : World} {cs : List Value} (h : w.rangeAt n 0 cs) (hb : Below B w w') (hn : n < B) : w'.rangeAt n 0 cs := by
  intro j v hv
  rw [hb.cell (p := ⟨n, 0 + j, none⟩) hn]
  exact h j v hv
theorem agg5 (w : World) : (isAgg 5).run Try.prog w = .ok false w := by kernel_rfl
theorem size5 (w : World) : (sizeOf 5).run Try.prog w = .ok 1 w := by kernel_rfl
theorem index38 (k : Nat) (hk : k < 255) (w : World) : (Instr.index 91 (.agg (pL 255).toArray) (.int .i64 k)).run Try.prog w = .ok (.int .u8 (Gf.pw k)) w := by
  have h1 := run_underlying und38 w
  have h2 : (pL 255).toArray[k]? = some (.int .u8 (Gf.pw k)) := by
    rw [List.getElem?_toArray, pL_get hk, if_pos hk]
  have h3 : (0 : Int) ≤ k ∧ (k : Int) < (255 : Nat) := by omega
  simp only [Instr.index, asIntOf, Sem.run_bind, Sem.run_pure, Result.andThen_ok, h1, if_pos h3, size5, part, agg5, Int.toNat_natCast, Nat.mul_one, h2]
  simp
set_option maxRecDepth 100000 in
set_option maxHeartbeats 1000000 in
theorem logs_any (w : World) :
    Calls Try.prog 80 #[] w fun e w' => e = .returned (.agg (qL 255).toArray) ∧ Below w.heap.size w w' := by
  have hz := zero35
  go_enter Try.func80, Try.ntmps80
  go_wp2_with fail
  refine (powers_any _).mono ?_
  rintro e w1 ⟨rfl, hb⟩
  have t0 : ((w.alloc (.cells Z35 89)).alloc (.cells Z35 89)).there w.heap.size 0 256 := there_past (qL_len 0 ▸ there_new w (qL 0) 89 _ rfl) (by simp) _
  have t1 : ((w.alloc (.cells Z35 89)).alloc (.cells Z35 89)).there (w.heap.size + 1) 0 256 := qL_len 0 ▸ there_new (w.alloc (.cells Z35 89)) (qL 0) 89 _ (by simp)
  have r1 : ((w.alloc (.cells Z35 89)).alloc (.cells Z35 89)).rangeAt (w.heap.size + 1) 0 (qL 0) := range_new (w.alloc (.cells Z35 89)) (qL 0) 89 _ (by simp)
  have B0 : Below w.heap.size w ((w.alloc (.cells Z35 89)).alloc (.cells Z35 89)) := ((Below.refl _ _).alloc (Nat.le_refl _) _).alloc (by simp) _
  have hs : ((w.alloc (.cells Z35 89)).alloc (.cells Z35 89)).heap.size = w.heap.size + 2 := by simp
  have t0' : w1.there w.heap.size 0 256 := there_below t0 hb (by rw [hs]; omega)
  have t1' : w1.there (w.heap.size + 1) 0 256 := there_below t1 hb (by rw [hs]; omega)
  have r1' : w1.rangeAt (w.heap.size + 1) 0 (qL 0) := range_below r1 hb (by rw [hs]; omega)
  have B1 : Below w.heap.size w w1 := B0.trans (hb.mono (by rw [hs]; omega))
  have F : Hid (w1.there w.heap.size 0 256 ∧ w1.there (w.heap.size + 1) 0 256 ∧ w1.rangeAt (w.heap.size + 1) 0 (qL 0) ∧ Below w.heap.size w w1) := ⟨t0', t1', r1', B1⟩
  clear t0 t1 r1 B0 hs t0' t1' r1' B1 hb hz
  go_wp2_with fail
  go_loopw [5] (fun i w' => ∃ k : Nat, k ≤ 255 ∧ i = .int .i64 k ∧ Hid (w'.there w.heap.size 0 256 ∧ w'.there (w.heap.size + 1) 0 256 ∧ w'.rangeAt (w.heap.size + 1) 0 (qL k) ∧ Below w.heap.size w w')) (fun i _ => 255 - (intOf i).toNat)
  case atStart => exact ⟨0, by omega, rfl, F⟩
  case round =>
    obtain ⟨k, hk, rfl, G⟩ := hrel
    clear F
    rename_i wr
    by_cases hlt : k < 255
    · have hi := index38 k hlt
      have hpw := Gf.pw_lt k
      have hc : ∃ v, wr.cell? ⟨w.heap.size + 1, Gf.pw k, none⟩ = some v := by
        have := (G.out.2.1 (Gf.pw k) hpw).1
        rw [Nat.zero_add] at this
        exact Option.isSome_iff_exists.1 this
      obtain ⟨v, hc⟩ := hc
      have hf : wr.frozen? ⟨w.heap.size + 1, Gf.pw k, none⟩ = false := by
        have := (G.out.2.1 (Gf.pw k) hpw).2
        rw [Nat.zero_add] at this
        exact this
      go_wp2_with fail
      go_roundw
      case rel => exact ⟨k + 1, by omega, by go_num, there_set G.out.1 _ _, there_set G.out.2.1 _ _, (qL_set hlt ▸ range_set G.out.2.2.1 _ _), G.out.2.2.2.setCell (by simp) _⟩
      case measure => simp [intOf]; omega
    · have hk' : k = 255 := by omega
      subst hk'
      have hl := qL_len 255
      clear hk hlt
      go_wp2_with (first
        | (refine wpList_load_mid rfl 89 _ rfl (w.heap.size + 1) 0 rfl (qL 255) _ ?_ und35 rfl ?_ ?_)
        | (refine wpList_store_mid rfl 89 _ _ rfl w.heap.size 0 (qL 255).toArray rfl rfl ?_ ?_ ?_ ?_))
      · exact G.out.2.2.1
      · rw [hl]; exact info35
      · rw [size_qL]; exact G.out.1
      · rw [size_qL]; exact info35
      · exact one_qL 255
      · have hth : wr.there w.heap.size 0 (qL 255).length := by rw [hl]; exact G.out.1
        have hload := run_loadVar_mid (P := Try.prog) _ w.heap.size 0 89 (qL 255) _ (World.rangeAt_setCells_same _ w.heap.size 0 (qL 255) hth) und35 rfl (by rw [hl]; exact info35)
        refine bodyPost_ret (v := .agg (qL 255).toArray) ?_ rfl ⟨rfl, ?_⟩
        · exact results_cell Try.results80 _ _ _ _ rfl _ hload
        · exact below_setCells _ (Nat.le_refl _) _ _ _ G.out.2.2.2
theorem wpList_store_laid {P : Program} {ops : Array Oper} {rest : List Oper} {op : Oper} {a : Act} {w1 : World} {Q : Exit → Act → World → Prop} (hgd : op.guard = none) (ty : TypeId) (x y : Operand) (ho : op.op = .store ty x y)
    (zs cs : List Value) (t : TypeId) (hx : a.eval x = .pointer (some ⟨w1.heap.size, 0, none⟩)) (hy : a.eval y = .agg cs.toArray) (hl : zs.length = cs.length)
    (hi : (P.info? ty).map (·.size) = some cs.length) (h1 : cs.toArray.all (·.oneCell') = true)
    (h : ∀ w3, w3.rangeAt w1.heap.size 0 cs → Below w1.heap.size w1 w3 → wpList P ops Q rest (a.put op.dst undef) w3) : wpList P ops Q (op :: rest) a (w1.alloc (.cells zs.toArray t)) := by
  refine wpList_store_mid hgd ty x y ho w1.heap.size 0 cs.toArray hx hy ?_ ?_ h1 ?_
  · have e : cs.toArray.size = zs.length := by rw [List.size_toArray, hl]
    rw [e]; exact there_new _ _ _ _ rfl
  · rw [List.size_toArray]; exact hi
  · exact h _ (laid_range w1 zs cs t hl) (laid_below zs cs t (Below.refl _ _) (Nat.le_refl _))
set_option maxRecDepth 100000 in
set_option maxHeartbeats 1000000 in
theorem log_any (a : Int) (w : World) (ha : 0 ≤ a) (ha' : a ≤ 255) :
    Calls Try.prog 61 #[.int .u8 a] w fun e w' => e = .returned (.tuple #[.int .i64 (Gf.lg a.toNat), .int .i64 (if a = 0 then 5 else 0)]) ∧ Below w.heap.size w w' := by
  by_cases h0 : a = 0
  · subst h0
    go_enter Try.func61, Try.ntmps61
    go_wp2_with fail
    go_ret2
    exact ⟨rfl, Below.refl _ _⟩
  · rw [if_neg h0]
    have h0' : (a == 0) = false := by simp [h0]
    have hz := zero35
    go_enter Try.func61, Try.ntmps61
    go_wp2_with fail
    refine (logs_any _).mono ?_
    rintro e w1 ⟨rfl, hb⟩
    go_wp2_with (refine wpList_store_laid rfl 89 _ _ rfl (qL 0) (qL 255) 89 rfl rfl (by rw [qL_len, qL_len]) (by rw [qL_len]; exact info35) (one_qL 255) ?_; intro w3 hr3 hb3; have hg := hr3 a.toNat _ (qL_get (by omega)); rw [lgTo_all (by omega), Nat.zero_add] at hg; clear hr3)
    go_ret2
    exact ⟨rfl, hb.trans (hb3.mono hb.size)⟩
end Go.Proofs.Ytjpibfnkchbglab
