/- A stamp, and a list of stamps, that came in, read. -/
import Derived.Test.YtcplbpnpcmgjfaaSb
import Derived.SizedLaws
import Derived.Deep.MidRow
import Derived.Deep.Slices
import Derived.ChangeSame
namespace Go.Proofs.Ytcplbpnpcmgjfaa
open Go.ChangeShapes Go.WideShapes Go.ChangeAt Go.RowKit Go.Shelf
theorem undS : ∃ f0 f1 : Field, Try.prog.underlying 23 = some (.struct #[f0, f1]) ∧ (f0.type, f0.offset) = (3, 0) ∧ (f1.type, f1.offset) = (3, 1) :=
  ⟨_, _, Try.underlying23, rfl, rfl⟩
theorem cellsS : Try.prog.cellsOf 23 = 2 := by kernel_rfl
theorem cellsI : Try.prog.cellsOf 3 = 1 := by kernel_rfl
/-- the cells of a stamp -/
theorem trod_st {H : Type} {enc : TypeId × Value → H} {W : World} {n : Nat} {cs : List Value} {x : DataW H × List MemPlace} (h : DataW.trod enc Try.prog W 0 (fun _ => true) true n 23 cs = some x) : ∃ p : St, cs = [.int .i64 p.1, .int .i64 p.2] ∧ (Lit.int .i64 p.1).wf = true ∧ (Lit.int .i64 p.2).wf = true := by
  obtain ⟨f0, f1, hu, e0, e1⟩ := undS
  obtain ⟨y0, y1, m, _, hl, h0, h1⟩ := trod_struct2 hu h
  obtain ⟨a0, b0⟩ := Prod.mk.inj e0
  obtain ⟨a1, b1⟩ := Prod.mk.inj e1
  rw [a0, b0, cellsI] at h0
  rw [a1, b1, cellsI] at h1
  rw [cellsS] at hl
  obtain ⟨k0, c0, _, w0⟩ := DataW.trod_int Try.underlying3 h0
  obtain ⟨k1, c1, _, w1⟩ := DataW.trod_int Try.underlying3 h1
  match cs, hl with
  | [x0, x1], _ =>
    simp at c0 c1
    subst c0 c1
    exact ⟨(k0, k1), rfl, w0, w1⟩
theorem open_st {H : Type} {enc : TypeId × Value → H} {W : World} {b0 : Nat} {v : Value} {d : DataW H} {ps : List MemPlace} (hval : Value.okWide Try.prog W .any b0 23 v) (hd : DataW.Trod enc Try.prog W 0 (fun _ => true) true 23 v d ps) :
    ∃ p : St, v = sv p ∧ (Lit.int .i64 p.1).wf = true ∧ (Lit.int .i64 p.2).wf = true := by
  obtain ⟨f0, f1, hu, _, _⟩ := undS
  obtain ⟨cs, rfl, hc⟩ := okWide_struct hu hval
  obtain ⟨fuel, hf⟩ := hd
  obtain ⟨l⟩ := cs
  obtain ⟨p, e, w0, w1⟩ := trod_st hf
  have e0 : (Value.agg { toList := l }).cells.toList = l := rfl
  rw [e0] at e
  exact ⟨p, by rw [e]; rfl, w0, w1⟩
theorem arg_ss {H : Type} {enc : TypeId × Value → H} {W : World} {fuel : Nat} {a : Option Addr} {l c : Nat} {d : DataW H} {p : List MemPlace} {ts : List TypeId} {ds : List (DataW H)} {j : Nat}
    (hf : DataW.trod enc Try.prog W 0 (fun _ => true) true fuel 24 (Value.slice a l c).cells.toList = some (d, p)) (hsz : (DataW.weightsEach Try.prog ts ds).all (· ≤ reachBytes) = true) (ht : ts[j]? = some 24) (hd : ds[j]? = some d) : ∃ L, Ss W.heap.size W (.slice a l c) L := by
  rcases Deep.open_slice Try.underlying24 hf with ⟨hcs, _⟩ | ⟨x, len, cap, m, n, D, Pl, hcs, _, hl, hm, hmm, hx, hel⟩
  · simp [Value.cells] at hcs
    obtain ⟨rfl, rfl, rfl⟩ := hcs
    exact ⟨[], Ss.nil _ _⟩
  · simp [Value.cells] at hcs
    obtain ⟨rfl, rfl, rfl⟩ := hcs
    obtain ⟨rfl, rfl⟩ := Prod.mk.inj hx
    have hb := sized_slice hsz (j := j) (t := 24) (e := 23) ht hd Try.underlying24
    rw [show Try.prog.bytesOf 23 = 16 by kernel_rfl] at hb
    simp only [List.length_map, List.length_range, reachBytes] at hb
    simp only [if_true] at hmm
    subst hmm
    rw [cellsS] at hel
    have each : ∀ i, i < l → ∃ p : St, W.cell? ((x.add (i * 2)).add 0) = some (.int .i64 p.1) ∧ W.cell? ((x.add (i * 2)).add 1) = some (.int .i64 p.2) := by
      intro i hi
      obtain ⟨cs, h1, h2⟩ := hel i (by omega)
      obtain ⟨p, rfl, _, _⟩ := trod_st h2
      obtain ⟨_, _, h3⟩ := World.cells?_some h1
      exact ⟨p, by have := h3 0 (by omega); simpa using this, by have := h3 1 (by omega); simpa using this⟩
    obtain ⟨f, hfl⟩ := Deep.choose_lt (α := St) (p := fun i p => W.cell? ((x.add (i * 2)).add 0) = some (.int .i64 p.1) ∧ W.cell? ((x.add (i * 2)).add 1) = some (.int .i64 p.2)) each
    refine ⟨(List.range l).map f, by rw [List.length_map, List.length_range]; omega, _, _, by rw [List.length_map, List.length_range], by rw [List.length_map, List.length_range]; omega, ?_⟩
    by_cases h0 : l = 0
    · left; rw [h0]; rfl
    · right
      obtain ⟨b, off, sp⟩ := x
      cases sp with
      | some s =>
        have h6 := (hfl 0 (by omega)).1
        simp [World.cell?, Addr.add] at h6
        split at h6 <;> simp at h6
      | none =>
        have hc : ∀ j, j < l → W.cell? ⟨b, off + j * 2, none⟩ = some (.int .i64 (f j).1) ∧ W.cell? ⟨b, off + j * 2 + 1, none⟩ = some (.int .i64 (f j).2) := fun j hj => by
          have := hfl j hj
          rw [Addr.add_mid, Addr.add_mid, Addr.add_mid, Nat.add_zero] at this
          exact this
        refine ⟨b, off, rfl, cell_lt (hc 0 (by omega)).1, fun j hj => ?_⟩
        simp only [List.length_map, List.length_range] at hj
        have := hc j hj
        simpa [hj] using this
end Go.Proofs.Ytcplbpnpcmgjfaa
