/- What layout.Piece and layout.Block answer. -/
import Derived.Test.YtegpniiokiejhaaLy3
namespace Go.Proofs.Ytegpniiokiejhaa
open Go.ChangeShapes Go.WideShapes Go.ChangeAt Go.RowKit Go.Shelf
/-- the node of a piece -/
def ndo (N T s p : Int) : Int := (T + s + p) % N
theorem ndo_bd {N : Int} (h : 1 ≤ N) (T s p : Int) : 0 ≤ ndo N T s p ∧ ndo N T s p < N := ⟨Int.emod_nonneg _ (by omega), Int.emod_lt_of_pos _ (by omega)⟩
theorem nodeOf_ndo (N D M T s p : Int) (w : World) (n1 : 1 ≤ N) (n2 : N ≤ 12) (t1 : 0 ≤ T) (t2 : T < N) (s1 : 0 ≤ s) (s2 : s ≤ 64) (p1 : 0 ≤ p) (p2 : p ≤ 64) : Calls Try.prog 35 #[lay N D M T, .int .i64 s, .int .i64 p] w fun x w' => x = .returned (.int .i64 (ndo N T s p)) ∧ Below w.heap.size w w' :=
  nodeOf_any N D M T s p w n1 n2 t1 t2 s1 s2 p1 p2
/-- Piece's error -/
def pcE (N D M T s n : Int) : Int := lcs (lck N D M T) (blw s 64 && blw n N)
/-- which piece it would be -/
def pcP (N T s n : Int) : Int := (n - ndo N T s 0 + N) % N
def pcB (N D M T s n : Int) : Bool := decide (pcE N D M T s n = 0) && decide (pcP N T s n < D + M)
def pcV (N D M T s n : Int) : Int := if pcB N D M T s n = true then pcP N T s n else 0
theorem pc_zero {N D M T s n : Int} (h : pcE N D M T s n = 0) : Lok N D M T ∧ 0 ≤ s ∧ s < 64 ∧ 0 ≤ n ∧ n < N := by
  obtain ⟨h1, h2⟩ := lcs_zero h
  simp only [Bool.and_eq_true] at h2
  have a := blw_t h2.1
  have b := blw_t h2.2
  exact ⟨lck_zero h1, a.1, a.2, b.1, b.2⟩
theorem pc_of {N D M T s n : Int} (h : Lok N D M T) (h1 : 0 ≤ s) (h2 : s < 64) (h3 : 0 ≤ n) (h4 : n < N) : pcE N D M T s n = 0 := by
  unfold pcE
  rw [lck_of h, blw_i ⟨h1, h2⟩, blw_i ⟨h3, h4⟩]
  rfl
theorem cf36 : ∀ (args : Array Value) (W : World), (callFunc 36 args).run Try.prog W = .ok (.enter 36 args) W := fun _ _ => rfl
theorem cf37 : ∀ (args : Array Value) (W : World), (callFunc 37 args).run Try.prog W = .ok (.enter 37 args) W := fun _ _ => rfl
set_option maxHeartbeats 1000000 in
theorem piece1_any (N D M T s n : Int) (bs bn bl : Nat) (w : World) (hs : Bi w bs s) (hn : Bi w bn n) (hl : Bx w bl N D M T) :
    Calls Try.prog 36 #[at0 bs, at0 bn, at0 bl] w fun e w' => e = .returned (.bool (blw s 64 && blw n N)) ∧ Below w.heap.size w w' := by
  unfold at0
  obtain ⟨k0, k1, k2, k3⟩ := hl.cells
  have k4 := hs.cell
  have k5 := hn.cell
  clear hl hs hn
  cases c1 : blw s 64
  · go_enter Try.func36, Try.ntmps36
    go_wp2_with fail
    refine (isBelow_any _ _ _).mono ?_
    rintro e w1 ⟨rfl, rfl⟩
    rw [c1]
    go_wp2_with fail
    go_ret
    exact ⟨rfl, Below.refl _ _⟩
  · go_enter Try.func36, Try.ntmps36
    go_wp2_with fail
    refine (isBelow_any _ _ _).mono ?_
    rintro e w1 ⟨rfl, rfl⟩
    rw [c1]
    go_wp2_with fail
    refine (isBelow_any _ _ _).mono ?_
    rintro e w1 ⟨rfl, rfl⟩
    go_wp2_with fail
    go_ret
    exact ⟨rfl, Below.refl _ _⟩
set_option maxHeartbeats 1000000 in
theorem block1_any (N D M T n : Int) (bn bl : Nat) (w : World) (hL : Lok N D M T) (hn : Bi w bn n) (hl : Bx w bl N D M T) :
    Calls Try.prog 37 #[at0 bn, at0 bl] w fun e w' => e = .returned (.bool (blw n (64 * D))) ∧ Below w.heap.size w w' := by
  unfold at0
  obtain ⟨k0, k1, k2, k3⟩ := hl.cells
  have k5 := hn.cell
  obtain ⟨n1, n2, d1, d2, m1, m2, hf, t1, t2⟩ := hL
  clear hl hn
  go_enter Try.func37, Try.ntmps37
  go_wp2_with fail
  refine (isBelow_any _ _ _).mono ?_
  rintro e w1 ⟨rfl, rfl⟩
  go_wp2_with fail
  go_ret
  exact ⟨rfl, Below.refl _ _⟩
set_option maxHeartbeats 1000000 in
theorem piece_any (N D M T s n : Int) (w : World) :
    Calls Try.prog 10 #[lay N D M T, .int .i64 s, .int .i64 n] w fun e w' => e = .returned (.tuple #[.int .i64 (pcV N D M T s n), .bool (pcB N D M T s n), .int .i64 (pcE N D M T s n)]) ∧ Below w.heap.size w w' := by
  obtain ⟨b0, b1, b2, b3⟩ := box3 w (.cells #[.int .i64 N, .int .i64 D, .int .i64 M, .int .i64 T] 23) (.cells #[.int .i64 s] 3) (.cells #[.int .i64 n] 3)
  have hmx : Try.prog.follows Departure.mixedOrders = true := by kernel_rfl
  have B0 := hid_of b0
  have B1 := hid_of (show Bx _ _ _ _ _ _ from b1)
  have B2 := hid_of (show Bi _ _ _ from b2)
  have B3 := hid_of (show Bi _ _ _ from b3)
  have HZ := hid_of (@pc_zero N D M T s n)
  have HV : Hid (pcV N D M T s n = if pcB N D M T s n = true then pcP N T s n else 0) := rfl
  have HB' : Hid (pcB N D M T s n = (decide (pcE N D M T s n = 0) && decide (pcP N T s n < D + M))) := rfl
  have HE : Hid (pcE N D M T s n = lcs (lck N D M T) (blw s 64 && blw n N)) := rfl
  generalize pcV N D M T s n = v at HV ⊢
  generalize pcB N D M T s n = b at HV HB' ⊢
  generalize pcE N D M T s n = x at HB' HZ HE ⊢
  clear b0 b1 b2 b3
  unfold lay
  go_enter Try.func10, Try.ntmps10
  go_wp2_with fail
  generalize ((w.alloc (.cells #[.int .i64 N, .int .i64 D, .int .i64 M, .int .i64 T] 23)).alloc (.cells #[.int .i64 s] 3)).alloc (.cells #[.int .i64 n] 3) = W at *
  refine (chk_any N D M T 36 #[at0 _, at0 _, at0 _] (blw s 64 && blw n N) _ cf36 (fun h0 W' hW => piece1_any N D M T s n _ _ _ W' (B2.out.below hW) (B3.out.below hW) (B1.out.below hW))).mono ?_
  rintro e w1 ⟨rfl, h1⟩
  rw [← HE.out]
  have HB := hid_of (B0.out.trans (h1.mono B0.out.size))
  have X1 := B1.out.below h1
  have X2 := B2.out.below h1
  have X3 := B3.out.below h1
  have HC : Hid (∀ w', Below w1.heap.size w1 w' → _) := hid_of fun w' (hw' : Below w1.heap.size w1 w') => And.intro (X1.below hw').cells (And.intro (X2.below hw').cell (X3.below hw').cell)
  have HX := hid_of X1
  clear h1 HE X1 X2 X3
  by_cases c : x = 0
  · obtain ⟨hL, s1, s2, p1, p2⟩ := HZ.out c
    obtain ⟨n1, n2, d1, d2, m1, m2, hf, t1, t2⟩ := hL
    obtain ⟨o1, o2⟩ := ndo_bd n1 T s 0
    have nz : ¬ N = 0 := by omega
    have g1 : IntKind.i64.wrap (n - ndo N T s 0) = n - ndo N T s 0 := Go.IntWalk.i64_in _ (by omega)
    have g2 : IntKind.i64.wrap (n - ndo N T s 0 + N) = n - ndo N T s 0 + N := Go.IntWalk.i64_in _ (by omega)
    have g3 : (n - ndo N T s 0 + N).tmod N = pcP N T s n := Int.tmod_eq_emod_of_nonneg (by omega)
    subst c
    rw [show decide ((0 : Int) = 0) = true from rfl, Bool.true_and] at HB'
    go_wp2_with fail
    refine wp_region_quiet (C := fun w' => Below w1.heap.size w1 w') hmx (by kernel_rfl) ((Below.refl _ _).drew) ?_
    refine wpQuiet_step (fun K hK => ?_)
    go_simp
    (refine ⟨_, fun w' hw' => (by simp only [HC.out w' hw', Result.andThen]; first | exact ⟨rfl, rfl⟩ | exact ⟨trivial, rfl⟩ | rfl), hK _ ?_⟩; clear hK K)
    refine wpQuiet_step (fun K hK => ?_)
    go_simp
    (refine ⟨_, fun w' hw' => (by simp only [HC.out w' hw', Result.andThen]; first | exact ⟨rfl, rfl⟩ | exact ⟨trivial, rfl⟩ | rfl), hK _ ?_⟩; clear hK K)
    refine wpQuiet_step (fun K hK => ?_)
    go_simp
    (refine ⟨_, fun w' hw' => (by simp only [HC.out w' hw', Result.andThen]; first | exact ⟨rfl, rfl⟩ | exact ⟨trivial, rfl⟩ | rfl), hK _ ?_⟩; clear hK K)
    refine wpQuiet_step (fun K hK => ?_)
    go_simp
    (refine ⟨_, fun w' hw' => (nodeOf_ndo _ _ _ _ _ _ _ n1 n2 t1 t2 s1 (by omega) (by omega) (by omega)).mono (by rintro e w2 ⟨rfl, hB⟩; exact ⟨rfl, hw'.trans (hB.mono hw'.size)⟩), hK _ ?_⟩; clear hK K)
    refine wpQuiet_step (fun K hK => ?_)
    go_simp
    (refine ⟨_, fun w' hw' => rfl, hK _ ?_⟩; clear hK K)
    refine wpQuiet_step (fun K hK => ?_)
    go_simp
    (refine ⟨_, fun w' hw' => rfl, hK _ ?_⟩; clear hK K)
    refine wpQuiet_step (fun K hK => ?_)
    go_simp
    (refine ⟨_, fun w' hw' => (by simp only [HC.out w' hw', Result.andThen]; first | exact ⟨rfl, rfl⟩ | exact ⟨trivial, rfl⟩ | rfl), hK _ ?_⟩; clear hK K)
    refine wpQuiet_step (fun K hK => ?_)
    go_simp
    (refine ⟨_, fun w' hw' => rfl, hK _ ?_⟩; clear hK K)
    refine wpQuiet_step (fun K hK => ?_)
    go_simp
    (refine ⟨_, fun w' hw' => rfl, hK _ ?_⟩; clear hK K)
    refine wpQuiet_step (fun K hK => ?_)
    go_simp
    (refine ⟨_, fun w' hw' => (by simp only [HC.out w' hw', Result.andThen]; first | exact ⟨rfl, rfl⟩ | exact ⟨trivial, rfl⟩ | rfl), hK _ ?_⟩; clear hK K)
    refine wpQuiet_step (fun K hK => ?_)
    go_simp
    (refine ⟨_, fun w' hw' => rfl, hK _ ?_⟩; clear hK K)
    refine wpQuiet_step (fun K hK => ?_)
    go_simp
    (refine ⟨_, fun w' hw' => rfl, hK _ ?_⟩; clear hK K)
    refine wpQuiet_nil ?_
    intro wq hq
    obtain ⟨k0, k1, k2, k3⟩ := (HX.out.below hq).cells
    clear g1 g2 g3 o1 o2
    generalize pcP N T s n = y at *
    have HBq := hid_of (HB.out.trans (hq.mono HB.out.size))
    clear hq
    go_wp2_with fail
    refine (pieces_any _ _ _ _ _ d1 d2 m1 m2).mono ?_
    rintro e w2 ⟨rfl, h2⟩
    have HBq := hid_of (HBq.out.trans (h2.mono HBq.out.size))
    clear h2
    by_cases c2 : y < D + M
    · have hb : b = true := by rw [HB'.out]; exact decide_eq_true c2
      subst hb
      have hv : v = y := by rw [HV.out]; rfl
      subst hv
      have g : decide (v ≥ D + M) = false := decide_eq_false (by omega)
      have g' : ¬ (D + M ≤ v) := by omega
      go_wp2_with fail
      go_ret3
      exact ⟨rfl, HBq.out⟩
    · have hb : b = false := by rw [HB'.out]; exact decide_eq_false c2
      subst hb
      have hv : v = 0 := by rw [HV.out]; rfl
      subst hv
      have g : decide (y ≥ D + M) = true := decide_eq_true (by omega)
      have g' : D + M ≤ y := by omega
      go_wp2_with fail
      go_ret3
      exact ⟨rfl, HBq.out⟩
  · have tx : (x != 0) = true := by rw [bne_iff_ne]; exact c
    have hb : b = false := by rw [HB'.out, decide_eq_false c]; rfl
    subst hb
    have hv : v = 0 := by rw [HV.out]; rfl
    subst hv
    go_wp2_with fail
    go_ret3
    exact ⟨rfl, HB.out⟩
/-- Block's error -/
def bkE (N D M T n : Int) : Int := lcs (lck N D M T) (blw n (64 * D))
def bkS (N D M T n : Int) : Int := if bkE N D M T n = 0 then n / D else 0
def bkP (N D M T n : Int) : Int := if bkE N D M T n = 0 then n % D else 0
theorem bk_zero {N D M T n : Int} (h : bkE N D M T n = 0) : Lok N D M T ∧ 0 ≤ n ∧ n < 64 * D := by
  obtain ⟨h1, h2⟩ := lcs_zero h
  have a := blw_t h2
  exact ⟨lck_zero h1, a.1, a.2⟩
theorem bk_of {N D M T n : Int} (h : Lok N D M T) (h1 : 0 ≤ n) (h2 : n < 64 * D) : bkE N D M T n = 0 := by
  unfold bkE
  rw [lck_of h, blw_i ⟨h1, h2⟩]
  rfl
set_option maxHeartbeats 1000000 in
theorem block_any (N D M T n : Int) (w : World) :
    Calls Try.prog 11 #[lay N D M T, .int .i64 n] w fun e w' => e = .returned (.tuple #[.int .i64 (bkS N D M T n), .int .i64 (bkP N D M T n), .int .i64 (bkE N D M T n)]) ∧ Below w.heap.size w w' := by
  obtain ⟨b0, b1, b2⟩ := box2 w (.cells #[.int .i64 N, .int .i64 D, .int .i64 M, .int .i64 T] 23) (.cells #[.int .i64 n] 3)
  have hmx : Try.prog.follows Departure.mixedOrders = true := by kernel_rfl
  have B0 := hid_of b0
  have B1 := hid_of (show Bx _ _ _ _ _ _ from b1)
  have B2 := hid_of (show Bi _ _ _ from b2)
  have HZ := hid_of (@bk_zero N D M T n)
  have HS : Hid (bkS N D M T n = if bkE N D M T n = 0 then n / D else 0) := rfl
  have HP : Hid (bkP N D M T n = if bkE N D M T n = 0 then n % D else 0) := rfl
  have HE : Hid (bkE N D M T n = lcs (lck N D M T) (blw n (64 * D))) := rfl
  generalize bkS N D M T n = u at HS ⊢
  generalize bkP N D M T n = v at HP ⊢
  generalize bkE N D M T n = x at HS HP HZ HE ⊢
  clear b0 b1 b2
  unfold lay
  go_enter Try.func11, Try.ntmps11
  go_wp2_with fail
  generalize (w.alloc (.cells #[.int .i64 N, .int .i64 D, .int .i64 M, .int .i64 T] 23)).alloc (.cells #[.int .i64 n] 3) = W at *
  refine (chk_any N D M T 37 #[at0 _, at0 _] (blw n (64 * D)) _ cf37 (fun h0 W' hW => block1_any N D M T n _ _ W' (lck_zero h0) (B2.out.below hW) (B1.out.below hW))).mono ?_
  rintro e w1 ⟨rfl, h1⟩
  rw [← HE.out]
  have HB := hid_of (B0.out.trans (h1.mono B0.out.size))
  have X1 := B1.out.below h1
  have X2 := B2.out.below h1
  have HC : Hid (∀ w', Below w1.heap.size w1 w' → _) := hid_of fun w' (hw' : Below w1.heap.size w1 w') => And.intro (X1.below hw').cells (X2.below hw').cell
  have HX := hid_of X1
  clear h1 HE X1 X2
  by_cases c : x = 0
  · obtain ⟨hL, p1, p2⟩ := HZ.out c
    obtain ⟨n1, n2, d1, d2, m1, m2, hf, t1, t2⟩ := hL
    rw [if_pos c] at HS HP
    have dz : ¬ D = 0 := by omega
    have g1 : IntKind.i64.wrap (n.tdiv D) = u := by rw [Go.IntWalk.i64_quo _ _ ⟨p1, by omega, d1⟩]; exact HS.out.symm
    have g2 : n.tmod D = v := by rw [Int.tmod_eq_emod_of_nonneg p1]; exact HP.out.symm
    subst c
    go_wp2_with fail
    refine wp_region_quiet (C := fun w' => Below w1.heap.size w1 w') hmx (by kernel_rfl) ((Below.refl _ _).drew) ?_
    refine wpQuiet_step (fun K hK => ?_)
    go_simp
    (refine ⟨_, fun w' hw' => (by simp only [HC.out w' hw', Result.andThen]; first | exact ⟨rfl, rfl⟩ | exact ⟨trivial, rfl⟩ | rfl), hK _ ?_⟩; clear hK K)
    refine wpQuiet_step (fun K hK => ?_)
    go_simp
    (refine ⟨_, fun w' hw' => rfl, hK _ ?_⟩; clear hK K)
    refine wpQuiet_step (fun K hK => ?_)
    go_simp
    (refine ⟨_, fun w' hw' => (by simp only [HC.out w' hw', Result.andThen]; first | exact ⟨rfl, rfl⟩ | exact ⟨trivial, rfl⟩ | rfl), hK _ ?_⟩; clear hK K)
    refine wpQuiet_step (fun K hK => ?_)
    go_simp
    (refine ⟨_, fun w' hw' => rfl, hK _ ?_⟩; clear hK K)
    refine wpQuiet_step (fun K hK => ?_)
    go_simp
    (refine ⟨_, fun w' hw' => (by simp only [HC.out w' hw', Result.andThen]; first | exact ⟨rfl, rfl⟩ | exact ⟨trivial, rfl⟩ | rfl), hK _ ?_⟩; clear hK K)
    refine wpQuiet_step (fun K hK => ?_)
    go_simp
    (refine ⟨_, fun w' hw' => rfl, hK _ ?_⟩; clear hK K)
    refine wpQuiet_step (fun K hK => ?_)
    go_simp
    (refine ⟨_, fun w' hw' => (by simp only [HC.out w' hw', Result.andThen]; first | exact ⟨rfl, rfl⟩ | exact ⟨trivial, rfl⟩ | rfl), hK _ ?_⟩; clear hK K)
    refine wpQuiet_step (fun K hK => ?_)
    go_simp
    (refine ⟨_, fun w' hw' => rfl, hK _ ?_⟩; clear hK K)
    refine wpQuiet_step (fun K hK => ?_)
    go_simp
    (refine ⟨_, fun w' hw' => rfl, hK _ ?_⟩; clear hK K)
    refine wpQuiet_step (fun K hK => ?_)
    go_simp
    (refine ⟨_, fun w' hw' => rfl, hK _ ?_⟩; clear hK K)
    refine wpQuiet_step (fun K hK => ?_)
    go_simp
    (refine ⟨_, fun w' hw' => rfl, hK _ ?_⟩; clear hK K)
    refine wpQuiet_nil ?_
    intro wq hq
    go_wp2_with fail
    go_ret3
    exact ⟨rfl, HB.out.trans (hq.mono HB.out.size)⟩
  · have tx : (x != 0) = true := by rw [bne_iff_ne]; exact c
    rw [if_neg c] at HS HP
    have hu := HS.out
    have hv := HP.out
    subst hu hv
    go_wp2_with fail
    go_ret3
    exact ⟨rfl, HB.out⟩
end Go.Proofs.Ytegpniiokiejhaa
