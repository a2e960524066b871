/- A list of lists of bytes that came in, read as a matrix. -/
import Derived.Test.YtjpibfnkchbglabMx
import Derived.Deep.Matrix
import Derived.SizedLaws
namespace Go.Proofs.Ytjpibfnkchbglab
open Go.ChangeShapes Go.WideShapes Go.ChangeAt Go.RowKit Go.Shelf
theorem weights_mem_all {H : Type} {P : Program} {e : TypeId} : ∀ {ds : List (DataW H)} {r : Nat} {d : DataW H}, ds[r]? = some d → ∀ n ∈ d.weights P e, n ∈ DataW.weightsAll P e ds
  | d0 :: ds, 0, d, hd, n, hn => by
    simp only [List.getElem?_cons_zero, Option.some.injEq] at hd
    subst hd
    simp only [DataW.weightsAll, List.mem_append]
    exact Or.inl hn
  | d0 :: ds, r + 1, d, hd, n, hn => by
    simp only [List.getElem?_cons_succ] at hd
    simp only [DataW.weightsAll, List.mem_append]
    exact Or.inr (weights_mem_all hd n hn)
  | [], _, _, hd, _, _ => by simp at hd
theorem sized_row {H : Type} {P : Program} {ts : List TypeId} {ds : List (DataW H)} (h : (DataW.weightsEach P ts ds).all (· ≤ reachBytes) = true) {j r : Nat} {t e q : TypeId} {elems spare e2 s2 : List (DataW H)} (ht : ts[j]? = some t) (hd : ds[j]? = some (.slice elems spare)) (hu : P.underlying t = some (.slice e)) (hq : P.underlying e = some (.slice q)) (hr : elems[r]? = some (.slice e2 s2)) :
    (e2.length + s2.length) * P.bytesOf q ≤ reachBytes := by
  have h1 : (e2.length + s2.length) * P.bytesOf q ∈ (DataW.slice e2 s2 : DataW H).weights P e := by simp [DataW.weights, hq]
  have h2 := weights_mem_all (e := e) hr _ h1
  have h3 : (e2.length + s2.length) * P.bytesOf q ∈ (DataW.slice elems spare : DataW H).weights P t := by
    simp only [DataW.weights, hu, List.mem_cons, List.mem_append]
    exact .inr (.inl h2)
  have := List.all_eq_true.1 h _ (DataW.weights_mem_each ht hd _ h3)
  simpa using this
theorem arg_mx {H : Type} {enc : TypeId × Value → H} {W : World} {fuel : Nat} {a : Option Addr} {l c : Nat} {d : DataW H} {p : List MemPlace} {ts : List TypeId} {ds : List (DataW H)} {j : Nat}
    (hf : DataW.trod enc Try.prog W 0 (fun _ => true) true fuel 23 (Value.slice a l c).cells.toList = some (d, p)) (hsz : (DataW.weightsEach Try.prog ts ds).all (· ≤ reachBytes) = true) (ht : ts[j]? = some 23) (hd : ds[j]? = some d) : ∃ A, Mx W.heap.size W (.slice a l c) A := by
  rcases Go.Deep.open_int_rows Try.underlying23 Try.underlying52 Try.underlying5 (by kernel_rfl) (by kernel_rfl) hf with ⟨hcs, _⟩ | ⟨x, len, cap, Aq, L, C, Z, hcs, hb, hl, hm, hx, hr⟩
  · simp [Value.cells] at hcs
    obtain ⟨rfl, rfl, rfl⟩ := hcs
    exact ⟨[], Mx.nil _ _⟩
  · simp [Value.cells] at hcs
    obtain ⟨rfl, rfl, rfl⟩ := hcs
    obtain ⟨rfl, rfl⟩ := Prod.mk.inj hx
    have hb0 := sized_slice hsz (j := j) (t := 23) (e := 52) ht hd Try.underlying23
    rw [show Try.prog.bytesOf 52 = 24 by kernel_rfl] at hb0
    simp only [List.length_map, List.length_range, reachBytes] at hb0
    have each : ∀ r, ∃ Lr, r < l → Bs W.heap.size W (.slice (Aq r) (L r) (C r)) Lr := by
      intro r
      by_cases hrl : r < l
      · obtain ⟨_, r1, r2, r3, r4, r5, r6⟩ := hr r (by omega)
        cases ha : Aq r with
        | none =>
          have h0 := r5 ha
          obtain ⟨e0, e1⟩ : L r = 0 ∧ C r = 0 := ⟨by omega, h0⟩
          rw [e0, e1]
          exact ⟨[], fun _ => Bs.nil _ _⟩
        | some y =>
          have hrow := sized_row hsz (j := j) (r := r) (e2 := lits .u8 ((Z r).take (L r))) (s2 := lits .u8 ((Z r).drop (L r))) ht hd Try.underlying23 Try.underlying52 (by rw [List.getElem?_map, List.getElem?_range hrl]; simp [Go.Deep.intRow, ha])
          rw [show Try.prog.bytesOf 5 = 1 by kernel_rfl] at hrow
          simp only [lits, List.length_map, List.length_take, List.length_drop, reachBytes] at hrow
          obtain ⟨Lr, hLr, _⟩ := isRow_bs (w := W) (a := some y) (len := L r) (cap := C r) (zs := Z r) (.inr ⟨y, rfl, r1, r2, r3, fun i hi => (r6 y ha).2 i (by omega), r4⟩) (by omega)
          exact ⟨Lr, fun _ => hLr⟩
      · exact ⟨[], fun h => absurd h hrl⟩
    obtain ⟨F, hF⟩ := Classical.axiomOfChoice each
    have hlen : ((List.range l).map F).length = l := by simp
    refine ⟨(List.range l).map F, by omega, _, _, by rw [hlen], by omega, ?_⟩
    by_cases h0 : l = 0
    · left; rw [h0]; rfl
    · right
      obtain ⟨b, off, sp⟩ := x
      cases sp with
      | some s =>
        have h6 := (hr 0 (by omega)).1
        simp [World.cell?, Addr.add] at h6
        split at h6 <;> simp at h6
      | none =>
        have hc : ∀ j, j < c → W.cell? ⟨b, off + j, none⟩ = some (.slice (Aq j) (L j) (C j)) := fun j hj => by rw [← Addr.add_mid]; exact (hr j hj).1
        refine ⟨b, off, rfl, cell_lt (hc 0 (by omega)), fun j hj => ?_⟩
        rw [hlen] at hj
        refine ⟨_, hc j (by omega), ?_⟩
        have e1 : ((List.range l).map F)[j]?.getD [] = F j := by simp [hj]
        rw [e1]
        exact hF j hj
end Go.Proofs.Ytjpibfnkchbglab
