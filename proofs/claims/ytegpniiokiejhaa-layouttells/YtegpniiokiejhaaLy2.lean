/- What layout's calls answer: check, Node, Piece, Block. -/
import Derived.Test.YtegpniiokiejhaaLy
namespace Go.Proofs.Ytegpniiokiejhaa
open Go.ChangeShapes Go.WideShapes Go.ChangeAt Go.RowKit Go.Shelf
/-- an error, or what else must be so -/
def lcs (e : Int) (b : Bool) : Int := if e = 0 then (if b = true then 0 else 3) else e
set_option maxHeartbeats 1000000 in
theorem chk_any (N D M T : Int) (c : Nat) (lb : Array Value) (b : Bool) (w : World) (hcf : ∀ (args : Array Value) (W : World), (callFunc c args).run Try.prog W = .ok (.enter c args) W)
    (hS : lck N D M T = 0 → ∀ W, Below w.heap.size w W → Calls Try.prog c lb W fun e W' => e = .returned (.bool b) ∧ Below W.heap.size W W') :
    Calls Try.prog 31 #[lay N D M T, .func (.func c) #[] lb] w fun e w' => e = .returned (.int .i64 (lcs (lck N D M T) b)) ∧ Below w.heap.size w w' := by
  have HS := hid_of hS
  clear hS
  have HU : Hid (lay N D M T = .agg #[.int .i64 N, .int .i64 D, .int .i64 M, .int .i64 T]) := rfl
  have HLC := hid_of (lcheck_any N D M T)
  generalize lck N D M T = x at HLC HS ⊢
  rw [HU.out]
  go_enter Try.func31, Try.ntmps31
  go_wp2_with fail
  rw [← HU.out]
  refine (HLC.out _).mono ?_
  rintro e w1 ⟨rfl, h1⟩
  have BW : Hid (Below w.heap.size w w1) := (below_new w _).trans (h1.mono (by simp))
  by_cases c1 : x = 0
  · have HS2 := hid_of (HS.out c1 w1 BW.out)
    clear HS
    subst c1
    go_wp2_with fail
    refine HS2.out.mono ?_
    rintro e w2 ⟨rfl, h2⟩
    cases b
    · go_wp2_with fail
      go_ret
      exact ⟨ret_int rfl, BW.out.trans (h2.mono BW.out.size)⟩
    · go_wp2_with fail
      go_ret
      exact ⟨ret_int rfl, BW.out.trans (h2.mono BW.out.size)⟩
  · have t1 : (x != 0) = true := by rw [bne_iff_ne]; exact c1
    have HL : Hid (lcs x b = x) := hid_of (by unfold lcs; rw [if_neg c1])
    go_wp2_with fail
    go_ret
    exact ⟨ret_int HL.out.symm, BW.out⟩
/-- the address of a box -/
def at0 (b : Nat) : Value := .pointer (some ⟨b, 0, none⟩)
/-- what a right layout is -/
structure Lok (N D M T : Int) : Prop where
  n1 : 1 ≤ N
  n2 : N ≤ 12
  d1 : 1 ≤ D
  d2 : D ≤ 8
  m1 : 1 ≤ M
  m2 : M ≤ 6
  few : D + M ≤ N
  t1 : 0 ≤ T
  t2 : T < N
theorem lck_zero {N D M T : Int} (h : lck N D M T = 0) : Lok N D M T := by
  unfold lck at h
  split at h
  · rename_i c
    simp only [Bool.and_eq_true] at c
    obtain ⟨⟨a, b⟩, c⟩ := c
    have a := cnt_t a
    have b := cnt_t b
    have c := cnt_t c
    split at h
    · omega
    · split at h
      · rename_i d
        have d := blw_t d
        exact ⟨a.1, a.2, b.1, b.2, c.1, c.2, by omega, d.1, d.2⟩
      · omega
  · omega
theorem lck_of {N D M T : Int} (h : Lok N D M T) : lck N D M T = 0 := by
  obtain ⟨a, b, c, d, e, f, g, i, j⟩ := h
  unfold lck
  rw [if_pos (by simp [cnt]; omega), if_neg (by omega), if_pos (by simp [blw]; omega)]
set_option maxHeartbeats 1000000 in
theorem node1_any (N D M T s p : Int) (bs bp bl : Nat) (w : World) (hL : Lok N D M T) (hs : Bi w bs s) (hp : Bi w bp p) (hl : Bx w bl N D M T) :
    Calls Try.prog 32 #[at0 bs, at0 bp, at0 bl] w fun e w' => e = .returned (.bool (blw s 64 && blw p (D + M))) ∧ Below w.heap.size w w' := by
  obtain ⟨n1, n2, d1, d2, m1, m2, hf, t1, t2⟩ := hL
  unfold at0
  have hmx : Try.prog.follows Departure.mixedOrders = true := by kernel_rfl
  have HC : Hid (∀ w', Below w.heap.size w w' → _) := hid_of fun w' (hw' : Below w.heap.size w w') => And.intro (hl.below hw').cells (And.intro (hs.below hw').cell (hp.below hw').cell)
  clear hl hs hp
  cases c1 : blw s 64
  · go_enter Try.func32, Try.ntmps32
    go_wp2_with fail
    refine wp_region_quiet (C := fun w' => Below w.heap.size w w') hmx (by kernel_rfl) ((Below.refl _ _).drew) ?_
    refine wpQuiet_step (fun K hK => ?_)
    go_simp
    (refine ⟨_, fun w' hw' => (by simp only [HC.out w' hw', Result.andThen]; first | exact ⟨rfl, rfl⟩ | exact ⟨trivial, rfl⟩ | rfl), hK _ ?_⟩; clear hK K)
    refine wpQuiet_step (fun K hK => ?_)
    go_simp
    (refine ⟨_, fun w' hw' => (isBelow_any _ _ _).mono (by rintro e w2 ⟨rfl, rfl⟩; exact ⟨rfl, hw'⟩), hK _ ?_⟩; clear hK K)
    refine wpQuiet_step (fun K hK => ?_)
    go_simp
    (refine ⟨_, fun w' hw' => rfl, hK _ ?_⟩; clear hK K)
    refine wpQuiet_step (fun K hK => ?_)
    go_simp
    (refine hK _ ?_; clear hK K)
    refine wpQuiet_step (fun K hK => ?_)
    go_simp
    (refine hK _ ?_; clear hK K)
    refine wpQuiet_step (fun K hK => ?_)
    go_simp
    (refine hK _ ?_; clear hK K)
    refine wpQuiet_step (fun K hK => ?_)
    go_simp
    (refine hK _ ?_; clear hK K)
    refine wpQuiet_step (fun K hK => ?_)
    go_simp
    (refine ⟨_, fun w' hw' => rfl, hK _ ?_⟩; clear hK K)
    refine wpQuiet_step (fun K hK => ?_)
    go_simp
    (refine ⟨_, fun w' hw' => rfl, hK _ ?_⟩; clear hK K)
    refine wpQuiet_nil ?_
    intro wq hq
    go_wp2_with fail
    go_ret
    exact ⟨rfl, hq⟩
  · go_enter Try.func32, Try.ntmps32
    go_wp2_with fail
    refine wp_region_quiet (C := fun w' => Below w.heap.size w w') hmx (by kernel_rfl) ((Below.refl _ _).drew) ?_
    refine wpQuiet_step (fun K hK => ?_)
    go_simp
    (refine ⟨_, fun w' hw' => (by simp only [HC.out w' hw', Result.andThen]; first | exact ⟨rfl, rfl⟩ | exact ⟨trivial, rfl⟩ | rfl), hK _ ?_⟩; clear hK K)
    refine wpQuiet_step (fun K hK => ?_)
    go_simp
    (refine ⟨_, fun w' hw' => (isBelow_any _ _ _).mono (by rintro e w2 ⟨rfl, rfl⟩; exact ⟨rfl, hw'⟩), hK _ ?_⟩; clear hK K)
    refine wpQuiet_step (fun K hK => ?_)
    go_simp
    (refine ⟨_, fun w' hw' => rfl, hK _ ?_⟩; clear hK K)
    refine wpQuiet_step (fun K hK => ?_)
    go_simp
    (refine ⟨_, fun w' hw' => (by simp only [HC.out w' hw', Result.andThen]; first | exact ⟨rfl, rfl⟩ | exact ⟨trivial, rfl⟩ | rfl), hK _ ?_⟩; clear hK K)
    refine wpQuiet_step (fun K hK => ?_)
    go_simp
    (refine ⟨_, fun w' hw' => (by simp only [HC.out w' hw', Result.andThen]; first | exact ⟨rfl, rfl⟩ | exact ⟨trivial, rfl⟩ | rfl), hK _ ?_⟩; clear hK K)
    refine wpQuiet_step (fun K hK => ?_)
    go_simp
    (refine ⟨_, fun w' hw' => (pieces_any _ _ _ _ _ d1 d2 m1 m2).mono (by rintro e w2 ⟨rfl, hB⟩; exact ⟨rfl, hw'.trans (hB.mono hw'.size)⟩), hK _ ?_⟩; clear hK K)
    refine wpQuiet_step (fun K hK => ?_)
    go_simp
    (refine ⟨_, fun w' hw' => (isBelow_any _ _ _).mono (by rintro e w2 ⟨rfl, rfl⟩; exact ⟨rfl, hw'⟩), hK _ ?_⟩; clear hK K)
    refine wpQuiet_step (fun K hK => ?_)
    go_simp
    (refine ⟨_, fun w' hw' => rfl, hK _ ?_⟩; clear hK K)
    refine wpQuiet_step (fun K hK => ?_)
    go_simp
    (refine ⟨_, fun w' hw' => rfl, hK _ ?_⟩; clear hK K)
    refine wpQuiet_nil ?_
    intro wq hq
    go_wp2_with fail
    go_ret
    exact ⟨rfl, hq⟩
end Go.Proofs.Ytegpniiokiejhaa
