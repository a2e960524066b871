/- What field.powers answers: the list of the 255 powers of 2, in new memory. -/
import Derived.Test.YtjpibfnkchbglabMul
import Derived.WalkKit
import Derived.ProofKit
import Derived.Deep.MidRow
namespace Go.Proofs.Ytjpibfnkchbglab
open Go.ChangeShapes Go.WideShapes Go.ChangeAt Go.RowKit
def pL (k : Nat) : List Value := (List.range 255).map fun i => if i < k then .int .u8 (Gf.pw i) else .int .u8 0
def Z38 : Array Value := (pL 0).toArray
theorem zero38 (w : World) : Sem.run Try.prog (zeroValue 91) w = .ok (.agg Z38) w := by kernel_rfl
theorem und38 : Try.prog.underlying 91 = some (.array 255 5) := by kernel_rfl
theorem info38 : (Try.prog.info? 91).map (·.size) = some 255 := by kernel_rfl
theorem pL_len (k : Nat) : (pL k).length = 255 := by simp [pL]
theorem pL_get {k i : Nat} (h : i < 255) : (pL k)[i]? = some (if i < k then .int .u8 (Gf.pw i) else .int .u8 0) := by
  simp [pL, h]
theorem pL_set (k : Nat) : (pL k).set k (.int .u8 (Gf.pw k)) = pL (k + 1) := by
  apply List.ext_getElem (by simp [pL])
  intro i h1 h2
  simp [pL, List.getElem_set]
  by_cases e : k = i
  · subst e; simp
  · simp [e]
    by_cases h' : i < k
    · simp [h', show i < k + 1 by omega]
    · simp [h', show ¬ i < k + 1 by omega]
theorem range_new (w : World) (cs : List Value) (t n : Nat) (hn : n = w.heap.size) : (w.alloc (.cells cs.toArray t)).rangeAt n 0 cs := by
  intro j v hv
  rw [Nat.zero_add, World.cell?_alloc_at _ _ _ _ hn]
  simpa using hv
theorem there_new (w : World) (cs : List Value) (t n : Nat) (hn : n = w.heap.size) : (w.alloc (.cells cs.toArray t)).there n 0 cs.length := by
  intro j hj
  rw [Nat.zero_add, World.cell?_alloc_at _ _ _ _ hn, World.frozen?_alloc_at _ _ _ _ hn]
  exact ⟨by simp [hj], rfl⟩
theorem there_past {w : World} {n m : Nat} (h : w.there n 0 m) (hn : n < w.heap.size) (o : Obj) : (w.alloc o).there n 0 m := by
  intro j hj
  rw [World.cell?_alloc_past _ _ _ hn, World.frozen?_alloc_past _ _ _ hn]
  exact h j hj
theorem one_pL (k : Nat) : ((pL k).toArray.all fun x => x.oneCell') = true := by
  refine all_oneCell_toArray fun v hv => ?_
  simp only [pL, List.mem_map] at hv
  obtain ⟨i, _, rfl⟩ := hv
  split <;> rfl
theorem size_pL (k : Nat) : (pL k).toArray.size = 255 := by rw [List.size_toArray, pL_len]
theorem z38_there (w : World) (o : Obj) : ((w.alloc (.cells Z38 91)).alloc o).there w.heap.size 0 255 :=
  there_past (pL_len 0 ▸ there_new w (pL 0) 91 _ rfl) (by simp) o
theorem results_cell {fn : Func} {p : Tmp} {ty : TypeId} (h : fn.results = #[.cell p ty]) (tmps : Array Value) (P : Program) (w : World) (a : Addr) (ha : tmps.getD p undef = .pointer (some a)) (v : Value)
    (hl : (loadVar ty a).run P w = .ok v w) : (results fn tmps).run P w = .ok v w := by
  have e : (asAddr (tmps.getD p undef)).run P w = .ok a w := by rw [ha]; rfl
  rw [Array.getD_eq_getD_getElem?] at e
  simp only [results, h]
  simp [Sem.run_bind, Result.andThen, e, hl]
theorem below_setCells {B : Nat} {a : World} (b : Nat) (hb : B ≤ b) : ∀ (vs : List Value) (o : Nat) (w : World), Below B a w → Below B a (w.setCells b o vs)
  | [], _, _, h => h
  | v :: r, o, w, h => by
    rw [World.setCells]
    exact below_setCells b hb r (o + 1) _ (h.setCell hb v)
set_option maxRecDepth 100000 in
set_option maxHeartbeats 1000000 in
theorem powers_any (w : World) :
    Calls Try.prog 81 #[] w fun e w' => e = .returned (.agg (pL 255).toArray) ∧ Below w.heap.size w w' := by
  have hz := zero38
  go_enter Try.func81, Try.ntmps81
  go_wp2_with fail
  go_loopw [2, 4] (fun p i w' => ∃ k : Nat, k ≤ 255 ∧ i = .int .i64 k ∧ p = .int .u8 (Gf.pw k) ∧ w' = (w.alloc (.cells Z38 91)).alloc (.cells (pL k).toArray 91)) (fun _ i _ => 255 - (intOf i).toNat)
  case atStart => exact ⟨0, by omega, rfl, by rw [Gf.pw_zero]; rfl, rfl⟩
  case round =>
    obtain ⟨k, hk, rfl, rfl, rfl⟩ := hrel
    by_cases hlt : k < 255
    · have hg : (pL k)[k]? = some (.int .u8 0) := by rw [pL_get hlt]; simp
      have hl := pL_len k
      have hpw := Gf.pw_lt k
      have hs := pL_set k
      have e := Gf.pw_succ k
      have HE : Hid ((pL k).set k (.int .u8 (Gf.pw k)) = pL (k + 1) ∧ Gf.pw (k + 1) = Gf.gm (Gf.pw k) 2) := ⟨hs, e⟩
      clear hs e
      go_wp2_with fail
      refine (mul_any _ _ _ (by omega) (by omega) (by omega) (by omega)).mono ?_
      rintro e w1 ⟨rfl, rfl⟩
      go_wp2
      go_roundw
      case rel => exact ⟨k + 1, by omega, by go_num, by rw [HE.out.2], by rw [← HE.out.1]⟩
      case measure => simp [intOf]; omega
    · have hk' : k = 255 := by omega
      subst hk'
      have hl := pL_len 255
      clear hk hlt
      go_wp2_with (first
        | (refine wpList_load_mid rfl 91 _ rfl (w.heap.size + 1) 0 rfl (pL 255) _ ?_ und38 rfl ?_ ?_)
        | (refine wpList_store_mid rfl 91 _ _ rfl w.heap.size 0 (pL 255).toArray rfl rfl ?_ ?_ ?_ ?_))
      · exact range_new _ _ _ _ (by simp)
      · rw [hl]; exact info38
      · rw [size_pL]; exact z38_there w _
      · rw [size_pL]; exact info38
      · exact one_pL 255
      · have hth : ((w.alloc (.cells Z38 91)).alloc (.cells (pL 255).toArray 91)).there w.heap.size 0 (pL 255).length :=
          by rw [hl]; exact z38_there w _
        have hload := run_loadVar_mid (P := Try.prog) _ w.heap.size 0 91 (pL 255) _ (World.rangeAt_setCells_same _ w.heap.size 0 (pL 255) hth) und38 rfl (by rw [hl]; exact info38)
        refine bodyPost_ret (v := .agg (pL 255).toArray) ?_ rfl ⟨rfl, ?_⟩
        · exact results_cell Try.results81 _ _ _ _ rfl _ hload
        · exact below_setCells _ (Nat.le_refl _) _ _ _ (((Below.refl _ _).alloc (Nat.le_refl _) _).alloc (by simp) _)
end Go.Proofs.Ytjpibfnkchbglab
