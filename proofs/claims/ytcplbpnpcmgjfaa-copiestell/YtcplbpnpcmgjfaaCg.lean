/- What must be in any case of copies is so. -/
import Derived.Test.YtcplbpnpcmgjfaaCd
import Derived.Test.YtcplbpnpcmgjfaaSd
import Derived.Test.YtcplbpnpcmgjfaaRf
namespace Go.Proofs.Ytcplbpnpcmgjfaa
open Go.ChangeShapes Go.WideShapes Go.ChangeAt Go.RowKit Go.Shelf
set_option maxHeartbeats 1000000 in
theorem block_any (t u : Int) (s : ByteArray) (w : World) : Calls Try.prog 32 #[.int .i64 t, .int .i64 u, .string s] w fun e w' => e = .returned (.agg #[.int .i64 t, .int .i64 u, .string s]) ∧ Below w.heap.size w w' := by
  obtain ⟨W, hW, BB, X2, -⟩ := new1 w (.cells #[.int .i64 0, .int .i64 0, .string ⟨#[]⟩] 37)
  replace X2 := hid_of (show Bc W _ cz from X2)
  replace BB := hid_of BB
  go_enter Try.func32, Try.ntmps32
  go_wp2_with fail
  refine (atB _ _ _).mono ?_
  rintro e w1 ⟨rfl, h1⟩
  replace BB := hid_of (BB.out.trans (h1.mono BB.out.size))
  replace X2 := hid_of (X2.out.below h1 X2.out.lt)
  clear h1 hW
  have HB : ∀ w, Sem.run Try.prog (Instr.build 37 #[(0, .agg #[.int .i64 t, .int .i64 u]), (1, .string s)]) w = .ok (.agg #[.int .i64 t, .int .i64 u, .string s]) w := fun w => by kernel_rfl
  obtain ⟨f1, f2, f3, f4, f5, f6, f7⟩ := X2.out.all t u s
  go_wp2_with fail
  obtain ⟨z0, z1, z2⟩ := (X2.out.put ((t, u), s)).cells
  exact bodyPost_ret (v := .agg #[.int .i64 t, .int .i64 u, .string s]) (by simp [results, Try.results32, go_sem, z0, z1, z2]) rfl ⟨rfl, below_putC BB.out (Nat.le_refl _) _⟩
theorem storeB1 (w : World) : Calls Try.prog 18 #[.agg #[.int .i64 1, .int .i64 2, .string ⟨#[97]⟩], .agg #[.int .i64 2, .int .i64 1, .string ⟨#[98]⟩]] w fun e w' => e = .returned (.tuple #[.agg #[.int .i64 2, .int .i64 1, .string ⟨#[98]⟩], .int .i64 0]) ∧ Below w.heap.size w w' :=
  store_any ((1, 2), ⟨#[97]⟩) ((2, 1), ⟨#[98]⟩) w
theorem storeB2 (w : World) : Calls Try.prog 18 #[.agg #[.int .i64 2, .int .i64 1, .string ⟨#[98]⟩], .agg #[.int .i64 2, .int .i64 1, .string ⟨#[99]⟩]] w fun e w' => e = .returned (.tuple #[.agg #[.int .i64 2, .int .i64 1, .string ⟨#[98]⟩], .int .i64 0]) ∧ Below w.heap.size w w' :=
  store_any ((2, 1), ⟨#[98]⟩) ((2, 1), ⟨#[99]⟩) w
/-- the three copies -/
def threeC : List Cp := [((1, 1), ⟨#[120]⟩), ((3, 0), ⟨#[121]⟩), ((3, 0), ⟨#[122]⟩)]
theorem row_cs3 {W : World} {g : Nat} (h : W.heap[g]? = some (.cells #[.int .i64 1, .int .i64 1, .string ⟨#[120]⟩, .int .i64 3, .int .i64 0, .string ⟨#[121]⟩, .int .i64 3, .int .i64 0, .string ⟨#[122]⟩] 37)) : Cs W.heap.size W (.slice (some ⟨g, 0, none⟩) 3 3) threeC := by
  refine ⟨by simp [threeC], _, 3, rfl, by simp [threeC], .inr ⟨g, 0, rfl, heap_lt h, fun j hj => ?_⟩⟩
  simp only [threeC, List.length_cons, List.length_nil] at hj
  simp only [World.cell?, h]
  match j, hj with
  | 0, _ => exact ⟨rfl, rfl, rfl⟩
  | 1, _ => exact ⟨rfl, rfl, rfl⟩
  | 2, _ => exact ⟨rfl, rfl, rfl⟩
theorem mergeB (v : Value) (w : World) (h : Cs w.heap.size w v threeC) : Calls Try.prog 19 #[v] w fun e w' => e = .returned (.tuple #[.agg #[.int .i64 3, .int .i64 0, .string ⟨#[121]⟩], .int .i64 0]) ∧ Below w.heap.size w w' := merge_any v threeC w h
theorem staleB (v : Value) (w : World) (h : Cs w.heap.size w v threeC) : Calls Try.prog 20 #[v] w fun e w' => e = .returned (.tuple #[.int .u64 1, .int .i64 0]) ∧ Below w.heap.size w w' := stale_any v threeC w h
theorem mergeB0 (w : World) : Calls Try.prog 19 #[.slice none 0 0] w fun e w' => e = .returned (.tuple #[.agg #[.int .i64 0, .int .i64 0, .string ⟨#[]⟩], .int .i64 0]) ∧ Below w.heap.size w w' := merge_any _ [] w (Cs.nil _ _)
theorem checkB1 (w : World) : Calls Try.prog 25 #[.agg #[.int .i64 (-1), .int .i64 0, .string ⟨#[]⟩]] w fun e w' => e = .returned (.int .i64 3) ∧ Below w.heap.size w w' := ccheck_any ((-1, 0), ⟨#[]⟩) w
set_option maxRecDepth 100000 in
set_option maxHeartbeats 1000000 in
theorem begunC_any (w : World) : Calls Try.prog 24 #[] w fun e w' => e = .returned (.bool true) ∧ Below w.heap.size w w' := by
  have hmx : Try.prog.follows Departure.mixedOrders = true := by kernel_rfl
  have BB := hid_of (Below.refl w.heap.size w)
  go_enter Try.func24, Try.ntmps24
  go_wp2_with fail
  refine (block_any _ _ _ _).mono ?_
  rintro e w1 ⟨rfl, h⟩
  replace BB := hid_of (BB.out.trans (h.mono BB.out.size)); clear h
  go_wp2_with fail
  refine (block_any _ _ _ _).mono ?_
  rintro e w2 ⟨rfl, h⟩
  replace BB := hid_of (BB.out.trans (h.mono BB.out.size)); clear h
  go_wp2_with fail
  refine (storeB1 _).mono ?_
  rintro e w3 ⟨rfl, h⟩
  replace BB := hid_of (BB.out.trans (h.mono BB.out.size)); clear h
  obtain ⟨W, hW, BW, XA, -⟩ := new1 w3 (.cells #[.int .i64 2, .int .i64 1, .string ⟨#[98]⟩] 37)
  replace XA := hid_of (show Bc W _ ((2, 1), ⟨#[98]⟩) from XA)
  replace BB := hid_of (BB.out.trans (BW.mono BB.out.size))
  clear BW
  go_wp2_with fail
  clear hW
  generalize w3.heap.size = ga at *
  clear w3 w2 w1
  have HC : Hid (∀ w', Below W.heap.size W w' → _) := hid_of fun w' (hw' : Below W.heap.size W w') => (XA.out.below hw' XA.out.lt).cells
  refine wp_region_fresh 6 (.cells #[.int .i64 0, .int .i64 0, .string ⟨#[]⟩] 37) hmx (by kernel_rfl) (fun o ho => (by cases ho; exact ⟨rfl, fun ev w => (by kernel_rfl)⟩)) ?_
  refine QW.out ?_
  iterate 6
    first
    | (refine fr_ex rfl (fun K hK => ?_); go_simp; first | (refine ⟨_, fun w' => rfl, hK _ ?_⟩; clear hK K) | (refine ⟨_, rfl, hK _ ?_⟩; clear hK K) | (refine hK _ ?_; clear hK K))
    | refine fr_step rfl (fun K hK => ?_)
      go_simp
      first
        | (refine ⟨_, fun w' hw' => rfl, hK _ ?_⟩; clear hK K)
        | (refine ⟨_, fun w' hw' => (by simp only [HC.out w' hw', Result.andThen]; first | exact ⟨rfl, rfl⟩ | exact ⟨trivial, rfl⟩ | rfl), hK _ ?_⟩; clear hK K)
        | (refine ⟨_, fun w' hw' => (block_any _ _ _ _), hK _ ?_⟩; clear hK K)
        | (refine ⟨_, fun w' hw' => (storeB2 _), hK _ ?_⟩; clear hK K)
        | (refine hK _ ?_; clear hK K)
  refine fr_nil ?_
  intro gb wq gbn hq gbz
  clear HC
  have LL : Hid (w.heap.size ≤ gb) := hid_of (by have := BB.out.size; omega)
  have NN : Hid (ga ≠ gb) := hid_of (by have := XA.out.lt; omega)
  replace BB := hid_of (BB.out.trans (hq.mono BB.out.size))
  replace XA := hid_of (XA.out.below hq XA.out.lt)
  have XB := hid_of (show Bc wq gb cz from gbz)
  clear hq gbz gbn
  obtain ⟨f1, f2, f3, f4, f5, f6, f7⟩ := XB.out.all 2 1 ⟨#[98]⟩
  go_wp2_with fail
  replace BB := hid_of (below_putC BB.out LL.out ((2, 1), ⟨#[98]⟩))
  replace XA := hid_of (XA.out.other NN.out ((2, 1), ⟨#[98]⟩))
  replace XB := hid_of (XB.out.put ((2, 1), ⟨#[98]⟩))
  clear f1 f2 f3 f4 f5 f6 f7 LL NN
  generalize putC wq gb ((2, 1), ⟨#[98]⟩) = W2 at *
  refine (block_any _ _ _ _).mono ?_
  rintro e w1 ⟨rfl, h⟩
  replace XA := hid_of (XA.out.below h XA.out.lt)
  replace XB := hid_of (XB.out.below h XB.out.lt)
  replace BB := hid_of (BB.out.trans (h.mono BB.out.size))
  clear h
  go_wp2_with fail
  refine (block_any _ _ _ _).mono ?_
  rintro e w2 ⟨rfl, h⟩
  replace XA := hid_of (XA.out.below h XA.out.lt)
  replace XB := hid_of (XB.out.below h XB.out.lt)
  replace BB := hid_of (BB.out.trans (h.mono BB.out.size))
  clear h
  go_wp2_with fail
  refine (block_any _ _ _ _).mono ?_
  rintro e w3 ⟨rfl, h⟩
  replace XA := hid_of (XA.out.below h XA.out.lt)
  replace XB := hid_of (XB.out.below h XB.out.lt)
  replace BB := hid_of (BB.out.trans (h.mono BB.out.size))
  clear h
  obtain ⟨W3, hW3, bn, XL, -⟩ := new1 w3 (.cells #[.int .i64 1, .int .i64 1, .string ⟨#[120]⟩, .int .i64 3, .int .i64 0, .string ⟨#[121]⟩, .int .i64 3, .int .i64 0, .string ⟨#[122]⟩] 37)
  replace XL := hid_of (row_cs3 XL)
  replace XA := hid_of (XA.out.below bn XA.out.lt)
  replace XB := hid_of (XB.out.below bn XB.out.lt)
  replace BB := hid_of (BB.out.trans (bn.mono BB.out.size))
  clear bn
  go_wp2_with fail
  clear hW3
  generalize w3.heap.size = gl at *
  have XL0 := XL
  refine (mergeB _ _ XL.out).mono ?_
  rintro e w4 ⟨rfl, h⟩
  replace XL := hid_of ((XL.out.below h).mono h.size)
  replace XA := hid_of (XA.out.below h XA.out.lt)
  replace XB := hid_of (XB.out.below h XB.out.lt)
  replace BB := hid_of (BB.out.trans (h.mono BB.out.size))
  clear h
  obtain ⟨W4, hW4, bn, XM, -⟩ := new1 w4 (.cells #[.int .i64 3, .int .i64 0, .string ⟨#[121]⟩] 37)
  replace XM := hid_of (show Bc W4 _ ((3, 0), ⟨#[121]⟩) from XM)
  replace XL := hid_of ((XL.out.below bn).mono bn.size)
  replace XA := hid_of (XA.out.below bn XA.out.lt)
  replace XB := hid_of (XB.out.below bn XB.out.lt)
  replace BB := hid_of (BB.out.trans (bn.mono BB.out.size))
  clear bn
  go_wp2_with fail
  clear hW4
  generalize w4.heap.size = gm at *
  refine (staleB _ _ XL.out).mono ?_
  rintro e w5 ⟨rfl, h⟩
  replace XL := hid_of ((XL.out.below h).mono h.size)
  replace XA := hid_of (XA.out.below h XA.out.lt)
  replace XB := hid_of (XB.out.below h XB.out.lt)
  replace XM := hid_of (XM.out.below h XM.out.lt)
  replace BB := hid_of (BB.out.trans (h.mono BB.out.size))
  clear h
  go_wp2_with fail
  refine (mergeB0 _).mono ?_
  rintro e w6 ⟨rfl, h⟩
  replace XL := hid_of ((XL.out.below h).mono h.size)
  replace XA := hid_of (XA.out.below h XA.out.lt)
  replace XB := hid_of (XB.out.below h XB.out.lt)
  replace XM := hid_of (XM.out.below h XM.out.lt)
  replace BB := hid_of (BB.out.trans (h.mono BB.out.size))
  clear h
  obtain ⟨W6, hW6, bn, XZ, -⟩ := new1 w6 (.cells #[.int .i64 0, .int .i64 0, .string ⟨#[]⟩] 37)
  replace XZ := hid_of (show Bc W6 _ cz from XZ)
  replace XL := hid_of ((XL.out.below bn).mono bn.size)
  replace XA := hid_of (XA.out.below bn XA.out.lt)
  replace XB := hid_of (XB.out.below bn XB.out.lt)
  replace XM := hid_of (XM.out.below bn XM.out.lt)
  replace BB := hid_of (BB.out.trans (bn.mono BB.out.size))
  clear bn
  replace hW6 := hid_of hW6
  go_wp2_with fail
  rw [hW6.out]
  clear hW6
  generalize w6.heap.size = gz at *
  have HA : Hid (∀ w', Below W6.heap.size W6 w' → _) := hid_of fun w' (hw' : Below W6.heap.size W6 w') => (XA.out.below hw' XA.out.lt).cells
  have HB : Hid (∀ w', Below W6.heap.size W6 w' → _) := hid_of fun w' (hw' : Below W6.heap.size W6 w') => (XB.out.below hw' XB.out.lt).cells
  have HM : Hid (∀ w', Below W6.heap.size W6 w' → _) := hid_of fun w' (hw' : Below W6.heap.size W6 w') => (XM.out.below hw' XM.out.lt).cells
  have HZ : Hid (∀ w', Below W6.heap.size W6 w' → _) := hid_of fun w' (hw' : Below W6.heap.size W6 w') => (XZ.out.below hw' XZ.out.lt).cells
  have HL : Hid (∀ w', Below W6.heap.size W6 w' → w'.cell? ⟨gl, 3, none⟩ = some (.int .i64 3) ∧ w'.cell? ⟨gl, 4, none⟩ = some (.int .i64 0) ∧ w'.cell? ⟨gl, 5, none⟩ = some (.string ⟨#[121]⟩)) := hid_of fun w' (hw' : Below W6.heap.size W6 w') => by
    obtain ⟨b, off, e, h⟩ := (XL.out.below hw').at (j := 1) (by decide)
    cases e
    exact h.2
  simp only [cz] at HZ
  refine wp_region_quiet (C := fun w' => Below W6.heap.size W6 w') hmx (by kernel_rfl) ((Below.refl _ _).drew) ?_
  refine QW.out ?_
  repeat
    refine qw_step (fun K hK => ?_)
    go_simp
    first
      | (refine ⟨_, fun w' hw' => rfl, hK _ ?_⟩; clear hK K)
      | (refine ⟨_, fun w' hw' => (by simp only [HA.out w' hw', Result.andThen]; first | exact ⟨rfl, rfl⟩ | exact ⟨trivial, rfl⟩ | rfl), hK _ ?_⟩; clear hK K)
      | (refine ⟨_, fun w' hw' => (by simp only [HB.out w' hw', Result.andThen]; first | exact ⟨rfl, rfl⟩ | exact ⟨trivial, rfl⟩ | rfl), hK _ ?_⟩; clear hK K)
      | (refine ⟨_, fun w' hw' => (by simp only [HM.out w' hw', Result.andThen]; first | exact ⟨rfl, rfl⟩ | exact ⟨trivial, rfl⟩ | rfl), hK _ ?_⟩; clear hK K)
      | (refine ⟨_, fun w' hw' => (by simp only [HZ.out w' hw', Result.andThen]; first | exact ⟨rfl, rfl⟩ | exact ⟨trivial, rfl⟩ | rfl), hK _ ?_⟩; clear hK K)
      | (refine ⟨_, fun w' hw' => (by simp only [HL.out w' hw', Result.andThen]; first | exact ⟨rfl, rfl⟩ | exact ⟨trivial, rfl⟩ | rfl), hK _ ?_⟩; clear hK K)
      | (refine ⟨_, fun w' hw' => (block_any _ _ _ _).mono (by rintro e w2 ⟨rfl, hB⟩; exact ⟨rfl, hw'.trans (hB.mono hw'.size)⟩), hK _ ?_⟩; clear hK K)
      | (refine ⟨_, fun w' hw' => (checkB1 _).mono (by rintro e w2 ⟨rfl, hB⟩; exact ⟨rfl, hw'.trans (hB.mono hw'.size)⟩), hK _ ?_⟩; clear hK K)
      | (refine hK _ ?_; clear hK K)
  refine qw_nil ?_
  intro wq hq
  go_wp2_with fail
  go_ret
  exact ⟨ret_bool (by decide), BB.out.trans (hq.mono BB.out.size)⟩
end Go.Proofs.Ytcplbpnpcmgjfaa
