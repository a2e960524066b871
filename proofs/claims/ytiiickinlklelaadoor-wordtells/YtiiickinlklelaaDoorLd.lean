/- What the condition on the two tables gives: they hold what their initialisers lay. -/
import Derived.Test.YtiiickinlklelaaDoorBg
import Derived.Test.YtiiickinlklelaaDoorTie
import Derived.Test.YtiiickinlklelaaDoorCards
import Derived.ProofKit
import Derived.LaidMore
import Derived.OpenShut
import Derived.Stop.Joined
import Derived.SevenTiedAt
namespace Go.Proofs.YtiiickinlklelaaDoor
open Go.ChangeShapes Go.WideShapes Go.ChangeAt Go.WideMaps Go.WideElems Go.RowKit
/-- the places of an array of numbers, off its datum -/
theorem arr_cell {H : Type} {enc : TypeId × Value → H} {P : Program} {w : World} {base : Nat} {spare : Nat → Bool} {held : Bool} {fuel n i : Nat} {t e : TypeId} {k : IntKind} {cs : List Value} {ds : List (DataW H)} {ps : List MemPlace} {z : Int}
    (ht : P.underlying t = some (.array n e)) (he : P.underlying e = some (.int k)) (hce : P.cellsOf e = 1) (h : DataW.trod enc P w base spare held fuel t cs = some (.agg ds, ps)) (hi : i < n) (hd : ds[i]? = some (.lit (.int k z))) : cs[i]? = some (.int k z) := by
  obtain ⟨xs, m, rfl, hx, hl, hn, hel⟩ := DataW.trod_array ht h
  simp only [Prod.mk.injEq, DataW.agg.injEq] at hx
  have h1 := hel i hi
  rw [hce, Nat.mul_one, List.getElem?_eq_getElem (by omega)] at h1
  obtain ⟨v, e1, e2, _⟩ := DataW.trod_int he h1
  have e3 : cs[i]? = some (.int k v) := by
    have := congrArg (fun l => l[0]?) e1
    simpa using this
  rw [hx.1, List.getElem?_map, List.getElem?_eq_getElem (by omega), e2] at hd
  simp at hd
  rw [e3, hd]
def laid2 : List (String × DataW Unit) := [("math/bits.deBruijn32tab", Rows.laid_math_bits_deBruijn32tab), ("supercargo/word.places", Rows.laid_supercargo_word_places)]
theorem gTab : Tryd.prog.globalNamed "math/bits.deBruijn32tab" = some 1 := by kernel_rfl
theorem gPl : Tryd.prog.globalNamed "supercargo/word.places" = some 0 := by kernel_rfl
theorem tTab : (Tryd.prog.globals[1]?).map (·.type) = some 45 := by kernel_rfl
theorem tPl : (Tryd.prog.globals[0]?).map (·.type) = some 41 := by kernel_rfl
theorem und46 : Tryd.prog.underlying 45 = some (.array 32 5) := by kernel_rfl
theorem c5 : Tryd.prog.cellsOf 5 = 1 := by kernel_rfl
theorem c3 : Tryd.prog.cellsOf 3 = 1 := by kernel_rfl
theorem und5 : Tryd.prog.underlying 5 = some (.int .u8) := by kernel_rfl
theorem und3 : Tryd.prog.underlying 3 = some (.int .i64) := by kernel_rfl
/-- The door's own heap meets the condition. -/
theorem door_met (os : Os) (args : Array Value) : laidMetH Tryd.prog laid2 ((World.doorLaid Tryd.prog 400 os).forCall (fun _ _ => 0) ⟨#[], args, []⟩).memory :=
  laidMetH_of_parts3 (fuel := 8) (laidMet_of_run' 8 (by kernel_rfl) (by kernel_rfl)) (by kernel_rfl) (by kernel_rfl)
theorem tab_eq : (Rows.laid_math_bits_deBruijn32tab : DataW Unit) = .agg ((List.range 32).map fun i => .lit (.int .u8 (Wd.tb i : Nat))) := by kernel_rfl
theorem pl_eq : (Rows.laid_supercargo_word_places : DataW Unit) = .agg ((List.range 8).map fun i => .lit (.int .i64 (Wd.pl i : Nat))) := by kernel_rfl
theorem of_laid {W : World} (h : laidMetH Tryd.prog laid2 W) : Gl W := by
  rw [MakeChecks.laidMetH_plain _ _ _ (by kernel_rfl)] at h
  obtain ⟨ps, ⟨g0, t0, cs0, f0, p0, q0, hg0, ht0, hv0, hd0, ⟨g1, t1, cs1, f1, p1, q1, hg1, ht1, hv1, hd1, _, _⟩, _⟩, _, _⟩ := h
  obtain rfl := Option.some.inj (gTab.symm.trans hg0)
  obtain rfl := Option.some.inj (gPl.symm.trans hg1)
  obtain rfl := Option.some.inj (tTab.symm.trans ht0)
  obtain rfl := Option.some.inj (tPl.symm.trans ht1)
  rw [tab_eq] at hd0
  rw [pl_eq] at hd1
  refine ⟨fun i hi => ?_, fun i hi => ?_, ?_⟩
  · rw [World.var?_cell hg1 hv1 i]
    have := arr_cell und41 und3 c3 hd1 hi (z := (Wd.pl i : Nat)) (by simp [hi])
    simpa using this
  · rw [World.var?_cell hg0 hv0 i]
    have := arr_cell und46 und5 c5 hd0 hi (z := (Wd.tb i : Nat)) (by simp [hi])
    simpa using this
  · have h1 : W.cell? ⟨1, 0, none⟩ = some (.int .u8 (Wd.tb 0 : Nat)) := by
      rw [World.var?_cell hg0 hv0 0]
      have := arr_cell und46 und5 c5 hd0 (i := 0) (by decide) (z := (Wd.tb 0 : Nat)) (by simp)
      simpa using this
    have := cell_lt h1
    have h2 : 1 < W.heap.size := this
    omega
end Go.Proofs.YtiiickinlklelaaDoor
