/- A copy, and a list of copies, that came in, read. -/
import Derived.Test.YtcplbpnpcmgjfaaCb
import Derived.Test.YtcplbpnpcmgjfaaSg
namespace Go.Proofs.Ytcplbpnpcmgjfaa
open Go.ChangeShapes Go.WideShapes Go.ChangeAt Go.RowKit Go.Shelf
theorem undC : ∃ f0 f1 : Field, Try.prog.underlying 37 = some (.struct #[f0, f1]) ∧ (f0.type, f0.offset) = (23, 0) ∧ (f1.type, f1.offset) = (9, 2) :=
  ⟨_, _, Try.underlying37, rfl, rfl⟩
theorem cellsC : Try.prog.cellsOf 37 = 3 := by kernel_rfl
theorem cellsStr : Try.prog.cellsOf 9 = 1 := by kernel_rfl
/-- the cells of a copy -/
theorem trod_cp {H : Type} {enc : TypeId × Value → H} {W : World} {n : Nat} {cs : List Value} {x : DataW H × List MemPlace} (h : DataW.trod enc Try.prog W 0 (fun _ => true) true n 37 cs = some x) : ∃ c : Cp, cs = [.int .i64 c.1.1, .int .i64 c.1.2, .string c.2] ∧ (Lit.int .i64 c.1.1).wf = true ∧ (Lit.int .i64 c.1.2).wf = true := by
  obtain ⟨f0, f1, hu, e0, e1⟩ := undC
  obtain ⟨y0, y1, m, _, hl, h0, h1⟩ := trod_struct2 hu h
  obtain ⟨a0, b0⟩ := Prod.mk.inj e0
  obtain ⟨a1, b1⟩ := Prod.mk.inj e1
  rw [a0, b0, cellsS] at h0
  rw [a1, b1, cellsStr] at h1
  rw [cellsC] at hl
  obtain ⟨p, c0, w0, w1⟩ := trod_st h0
  obtain ⟨s, c1, _, _⟩ := DataW.trod_string Try.underlying9 h1
  match cs, hl with
  | [x0, x1, x2], _ =>
    simp at c0 c1
    obtain ⟨rfl, rfl⟩ := c0
    subst c1
    exact ⟨(p, s), rfl, w0, w1⟩
theorem open_cp {H : Type} {enc : TypeId × Value → H} {W : World} {b0 : Nat} {v : Value} {d : DataW H} {ps : List MemPlace} (hval : Value.okWide Try.prog W .any b0 37 v) (hd : DataW.Trod enc Try.prog W 0 (fun _ => true) true 37 v d ps) :
    ∃ c : Cp, v = cv c ∧ (Lit.int .i64 c.1.1).wf = true ∧ (Lit.int .i64 c.1.2).wf = true := by
  obtain ⟨f0, f1, hu, _, _⟩ := undC
  obtain ⟨cs, rfl, hc⟩ := okWide_struct hu hval
  obtain ⟨fuel, hf⟩ := hd
  obtain ⟨l⟩ := cs
  obtain ⟨p, e, w0, w1⟩ := trod_cp hf
  have e0 : (Value.agg { toList := l }).cells.toList = l := rfl
  rw [e0] at e
  exact ⟨p, by rw [e]; rfl, w0, w1⟩
theorem arg_cs {H : Type} {enc : TypeId × Value → H} {W : World} {fuel : Nat} {a : Option Addr} {l c : Nat} {d : DataW H} {p : List MemPlace} {ts : List TypeId} {ds : List (DataW H)} {j : Nat}
    (hf : DataW.trod enc Try.prog W 0 (fun _ => true) true fuel 38 (Value.slice a l c).cells.toList = some (d, p)) (hsz : (DataW.weightsEach Try.prog ts ds).all (· ≤ reachBytes) = true) (ht : ts[j]? = some 38) (hd : ds[j]? = some d) : ∃ L, Cs W.heap.size W (.slice a l c) L := by
  rcases Deep.open_slice Try.underlying38 hf with ⟨hcs, _⟩ | ⟨x, len, cap, m, n, D, Pl, hcs, _, hl, hm, hmm, hx, hel⟩
  · simp [Value.cells] at hcs
    obtain ⟨rfl, rfl, rfl⟩ := hcs
    exact ⟨[], Cs.nil _ _⟩
  · simp [Value.cells] at hcs
    obtain ⟨rfl, rfl, rfl⟩ := hcs
    obtain ⟨rfl, rfl⟩ := Prod.mk.inj hx
    have hb := sized_slice hsz (j := j) (t := 38) (e := 37) ht hd Try.underlying38
    rw [show Try.prog.bytesOf 37 = 32 by kernel_rfl] at hb
    simp only [List.length_map, List.length_range, reachBytes] at hb
    simp only [if_true] at hmm
    subst hmm
    rw [cellsC] at hel
    have each : ∀ i, i < l → ∃ p : Cp, W.cell? ((x.add (i * 3)).add 0) = some (.int .i64 p.1.1) ∧ W.cell? ((x.add (i * 3)).add 1) = some (.int .i64 p.1.2) ∧ W.cell? ((x.add (i * 3)).add 2) = some (.string p.2) := by
      intro i hi
      obtain ⟨cs, h1, h2⟩ := hel i (by omega)
      obtain ⟨p, rfl, _, _⟩ := trod_cp h2
      obtain ⟨_, _, h3⟩ := World.cells?_some h1
      exact ⟨p, by have := h3 0 (by omega); simpa using this, by have := h3 1 (by omega); simpa using this, by have := h3 2 (by omega); simpa using this⟩
    obtain ⟨f, hfl⟩ := Deep.choose_lt (α := Cp) (p := fun i p => W.cell? ((x.add (i * 3)).add 0) = some (.int .i64 p.1.1) ∧ W.cell? ((x.add (i * 3)).add 1) = some (.int .i64 p.1.2) ∧ W.cell? ((x.add (i * 3)).add 2) = some (.string p.2)) each
    refine ⟨(List.range l).map f, by rw [List.length_map, List.length_range]; omega, _, _, by rw [List.length_map, List.length_range], by rw [List.length_map, List.length_range]; omega, ?_⟩
    by_cases h0 : l = 0
    · left; rw [h0]; rfl
    · right
      obtain ⟨b, off, sp⟩ := x
      cases sp with
      | some s =>
        have h6 := (hfl 0 (by omega)).1
        simp [World.cell?, Addr.add] at h6
        split at h6 <;> simp at h6
      | none =>
        have hc : ∀ j, j < l → W.cell? ⟨b, off + j * 3, none⟩ = some (.int .i64 (f j).1.1) ∧ W.cell? ⟨b, off + j * 3 + 1, none⟩ = some (.int .i64 (f j).1.2) ∧ W.cell? ⟨b, off + j * 3 + 2, none⟩ = some (.string (f j).2) := fun j hj => by
          have := hfl j hj
          rw [Addr.add_mid, Addr.add_mid, Addr.add_mid, Addr.add_mid, Nat.add_zero] at this
          exact this
        refine ⟨b, off, rfl, cell_lt (hc 0 (by omega)).1, fun j hj => ?_⟩
        simp only [List.length_map, List.length_range] at hj
        have := hc j hj
        simpa [hj] using this
end Go.Proofs.Ytcplbpnpcmgjfaa
