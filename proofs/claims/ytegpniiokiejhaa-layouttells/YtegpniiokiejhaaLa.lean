/- A layout that came in, read. -/
import Derived.Test.YtegpniiokiejhaaLy
import Derived.SizedLaws
namespace Go.Proofs.Ytegpniiokiejhaa
open Go.ChangeShapes Go.WideShapes Go.ChangeAt Go.RowKit Go.Shelf
theorem und23 : ∃ fs : Array Field, Try.prog.underlying 23 = some (.struct fs) ∧ fs.size = 4 ∧ (fs[0]?.map fun f => (f.type, f.offset)) = some (3, 0) ∧ (fs[1]?.map fun f => (f.type, f.offset)) = some (3, 1) ∧ (fs[2]?.map fun f => (f.type, f.offset)) = some (3, 2) ∧ (fs[3]?.map fun f => (f.type, f.offset)) = some (3, 3) :=
  ⟨_, Try.underlying23, rfl, rfl, rfl, rfl, rfl⟩
theorem fld {H : Type} {enc : TypeId × Value → H} {W : World} {n o i : Nat} {cs : List Value} {fs : Array Field} {xs : List (DataW H × List MemPlace)} (hx : xs.length = 4) (hi : i < 4)
    (hf : ∀ (i : Nat) (f : Field), fs[i]? = some f → DataW.trod enc Try.prog W 0 (fun _ => true) true n f.type ((cs.drop f.offset).take (Try.prog.cellsOf f.type)) = xs[i]?) (h : (fs[i]?.map fun f => (f.type, f.offset)) = some (3, o)) : ∃ k, (cs.drop o).take 1 = [.int .i64 k] ∧ (Lit.int .i64 k).wf = true := by
  obtain ⟨f, hfs, he⟩ := Option.map_eq_some_iff.1 h
  obtain ⟨e1, e2⟩ := Prod.mk.inj he
  have hh := hf i f hfs
  rw [e1, e2, List.getElem?_eq_getElem (by omega)] at hh
  obtain ⟨k, h1, h2, h3⟩ := DataW.trod_int Try.underlying3 hh
  exact ⟨k, h1, h3⟩
theorem open_lay {H : Type} {enc : TypeId × Value → H} {W : World} {b0 : Nat} {v : Value} {d : DataW H} {ps : List MemPlace} (hval : Value.okWide Try.prog W .any b0 23 v) (hd : DataW.Trod enc Try.prog W 0 (fun _ => true) true 23 v d ps) :
    ∃ N D M T, v = lay N D M T ∧ (Lit.int .i64 N).wf = true ∧ (Lit.int .i64 D).wf = true ∧ (Lit.int .i64 M).wf = true ∧ (Lit.int .i64 T).wf = true := by
  obtain ⟨fs, hu, hs, f0, f1, f2, f3⟩ := und23
  obtain ⟨cs, rfl, hc⟩ := okWide_struct hu hval
  obtain ⟨fuel, hf⟩ := hd
  obtain ⟨xs, n, _, _, hl, hx, hfl⟩ := DataW.trod_struct hu hf
  rw [show Try.prog.cellsOf 23 = 4 by kernel_rfl] at hc
  obtain ⟨l⟩ := cs
  have e0 : (Value.agg { toList := l }).cells.toList = l := rfl
  rw [e0] at hfl
  obtain ⟨k0, a0, w0⟩ := fld (by omega) (by omega) hfl f0
  obtain ⟨k1, a1, w1⟩ := fld (by omega) (by omega) hfl f1
  obtain ⟨k2, a2, w2⟩ := fld (by omega) (by omega) hfl f2
  obtain ⟨k3, a3, w3⟩ := fld (by omega) (by omega) hfl f3
  refine ⟨k0, k1, k2, k3, ?_, w0, w1, w2, w3⟩
  simp only [List.size_toArray] at hc
  match l, hc with
  | [x0, x1, x2, x3], _ =>
    simp at a0 a1 a2 a3
    subst a0 a1 a2 a3
    rfl
end Go.Proofs.Ytegpniiokiejhaa
