/- What layout.Node answers. -/
import Derived.Test.YtegpniiokiejhaaLy2
namespace Go.Proofs.Ytegpniiokiejhaa
open Go.ChangeShapes Go.WideShapes Go.ChangeAt Go.RowKit Go.Shelf
theorem heap_at (w : World) (o : Obj) {b : Nat} (h : w.heap.size = b) : (w.alloc o).heap[b]? = some o := by subst h; exact heap_new w o
theorem size_new (w : World) (o : Obj) : (w.alloc o).heap.size = w.heap.size + 1 := by show (w.heap.push _).size = _; simp
theorem box3 (w : World) (A B C : Obj) : Below w.heap.size w (((w.alloc A).alloc B).alloc C) ∧ (((w.alloc A).alloc B).alloc C).heap[w.heap.size]? = some A ∧ (((w.alloc A).alloc B).alloc C).heap[w.heap.size + 1]? = some B ∧ (((w.alloc A).alloc B).alloc C).heap[w.heap.size + 2]? = some C := by
  have e1 := size_new w A
  have e2 := size_new (w.alloc A) B
  refine ⟨((below_new w A).trans ((below_new _ B).mono (by omega))).trans ((below_new _ C).mono (by omega)), heap_old (heap_old (heap_new _ _) _) _, heap_old (heap_at _ _ (by omega)) _, heap_at _ _ (by omega)⟩
theorem box2 (w : World) (A B : Obj) : Below w.heap.size w ((w.alloc A).alloc B) ∧ ((w.alloc A).alloc B).heap[w.heap.size]? = some A ∧ ((w.alloc A).alloc B).heap[w.heap.size + 1]? = some B := by
  have e1 := size_new w A
  refine ⟨((below_new w A).trans ((below_new _ B).mono (by omega))), (heap_old (heap_new _ _) _), (heap_at _ _ (by omega))⟩
theorem lcs_zero {e : Int} {b : Bool} (h : lcs e b = 0) : e = 0 ∧ b = true := by
  unfold lcs at h
  split at h
  · rename_i c
    refine ⟨c, ?_⟩
    cases b
    · simp at h
    · rfl
  · omega
/-- Node's error -/
def ndE (N D M T s p : Int) : Int := lcs (lck N D M T) (blw s 64 && blw p (D + M))
/-- Node's answer -/
def ndV (N D M T s p : Int) : Int := if ndE N D M T s p = 0 then (T + s + p) % N else 0
theorem nd_zero {N D M T s p : Int} (h : ndE N D M T s p = 0) : Lok N D M T ∧ 0 ≤ s ∧ s < 64 ∧ 0 ≤ p ∧ p < D + M := by
  obtain ⟨h1, h2⟩ := lcs_zero h
  simp only [Bool.and_eq_true] at h2
  have a := blw_t h2.1
  have b := blw_t h2.2
  exact ⟨lck_zero h1, a.1, a.2, b.1, b.2⟩
theorem nd_of {N D M T s p : Int} (h : Lok N D M T) (h1 : 0 ≤ s) (h2 : s < 64) (h3 : 0 ≤ p) (h4 : p < D + M) : ndE N D M T s p = 0 := by
  unfold ndE
  rw [lck_of h, blw_i ⟨h1, h2⟩, blw_i ⟨h3, h4⟩]
  rfl
theorem cf32 : ∀ (args : Array Value) (W : World), (callFunc 32 args).run Try.prog W = .ok (.enter 32 args) W := fun _ _ => rfl
set_option maxHeartbeats 1000000 in
theorem node_any (N D M T s p : Int) (w : World) :
    Calls Try.prog 9 #[lay N D M T, .int .i64 s, .int .i64 p] w fun e w' => e = .returned (.tuple #[.int .i64 (ndV N D M T s p), .int .i64 (ndE N D M T s p)]) ∧ Below w.heap.size w w' := by
  obtain ⟨b0, b1, b2, b3⟩ := box3 w (.cells #[.int .i64 N, .int .i64 D, .int .i64 M, .int .i64 T] 23) (.cells #[.int .i64 s] 3) (.cells #[.int .i64 p] 3)
  have B0 := hid_of b0
  have B1 := hid_of (show Bx _ _ _ _ _ _ from b1)
  have B2 := hid_of (show Bi _ _ _ from b2)
  have B3 := hid_of (show Bi _ _ _ from b3)
  have HZ := hid_of (@nd_zero N D M T s p)
  have HV : Hid (ndV N D M T s p = if ndE N D M T s p = 0 then (T + s + p) % N else 0) := rfl
  have HE : Hid (ndE N D M T s p = lcs (lck N D M T) (blw s 64 && blw p (D + M))) := rfl
  generalize ndV N D M T s p = v at HV ⊢
  generalize ndE N D M T s p = x at HV HZ HE ⊢
  clear b0 b1 b2 b3
  unfold lay
  go_enter Try.func9, Try.ntmps9
  go_wp2_with fail
  generalize ((w.alloc (.cells #[.int .i64 N, .int .i64 D, .int .i64 M, .int .i64 T] 23)).alloc (.cells #[.int .i64 s] 3)).alloc (.cells #[.int .i64 p] 3) = W at *
  refine (chk_any N D M T 32 #[at0 _, at0 _, at0 _] (blw s 64 && blw p (D + M)) _ cf32 (fun h0 W' hW => node1_any N D M T s p _ _ _ W' (lck_zero h0) (B2.out.below hW) (B3.out.below hW) (B1.out.below hW))).mono ?_
  rintro e w1 ⟨rfl, h1⟩
  rw [← HE.out]
  have HB := hid_of (B0.out.trans (h1.mono B0.out.size))
  obtain ⟨k0, k1, k2, k3⟩ := (B1.out.below h1).cells
  have k4 := (B2.out.below h1).cell
  have k5 := (B3.out.below h1).cell
  clear h1 HE
  by_cases c : x = 0
  · obtain ⟨hL, s1, s2, p1, p2⟩ := HZ.out c
    rw [if_pos c] at HV
    obtain ⟨n1, n2, d1, d2, m1, m2, hf, t1, t2⟩ := hL
    subst c
    go_wp2_with fail
    refine (nodeOf_any N D M T s p _ n1 n2 t1 t2 s1 (by omega) p1 (by omega)).mono ?_
    rintro e w2 ⟨rfl, h2⟩
    rw [← HV.out]
    go_wp2_with fail
    go_ret2
    exact ⟨rfl, HB.out.trans (h2.mono HB.out.size)⟩
  · have tx : (x != 0) = true := by rw [bne_iff_ne]; exact c
    rw [if_neg c] at HV
    have hv := HV.out
    subst hv
    go_wp2_with fail
    go_ret2
    exact ⟨rfl, HB.out⟩
end Go.Proofs.Ytegpniiokiejhaa
