/- A slice of bytes that came in, read as a list of numbers below 256. -/
import Derived.Test.YtlccdceeppfleabBegun
import Derived.OpenShut
namespace Go.Proofs.Ytlccdceeppfleab
open Go.ChangeShapes Go.WideShapes Go.ChangeAt Go.RowKit Go.Shelf
/-- what is told of a slice of bytes that came in -/
def IsRow (k : IntKind) (w : World) (a : Option Addr) (len cap : Nat) (zs : List Int) : Prop :=
  (a = none ∧ len = 0 ∧ cap = 0 ∧ zs = []) ∨
  ∃ x, a = some x ∧ len ≤ cap ∧ cap ≤ maxLen ∧ zs.length = cap ∧ (∀ i, i < zs.length → w.cell? (x.add i) = some (.int k (zs.getD i 0))) ∧ ∀ n ∈ zs, (Lit.int k n).wf = true
theorem isRow_bs {w : World} {a : Option Addr} {len cap : Nat} {zs : List Int} (h : IsRow .u8 w a len cap zs) (hb : len ≤ 140737488351232) : ∃ L, Bs w.heap.size w (.slice a len cap) L ∧ L.length = len := by
  rcases h with ⟨rfl, rfl, rfl, rfl⟩ | ⟨x, rfl, h1, h2, h3, h4, h5⟩
  · exact ⟨[], Bs.nil _ _, rfl⟩
  · have hl : ((zs.take len).map Int.toNat).length = len := by rw [List.length_map, List.length_take]; omega
    refine ⟨(zs.take len).map Int.toNat, ⟨?_, by omega, _, _, by rw [hl], by omega, by simp, ?_⟩, hl⟩
    · intro y hy
      rw [List.mem_map] at hy
      obtain ⟨z, hz, rfl⟩ := hy
      have := bounds_u8 (h5 z (List.mem_of_mem_take hz))
      omega
    · by_cases h0 : len = 0
      · left; rw [h0]; rfl
      · right
        obtain ⟨b, off, sp⟩ := x
        cases sp with
        | some s =>
          have h6 := h4 0 (by omega)
          simp [World.cell?, Addr.add] at h6
          split at h6 <;> simp at h6
        | none =>
          have hc : ∀ j, j < zs.length → w.cell? ⟨b, off + j, none⟩ = some (.int .u8 (zs.getD j 0)) := fun j hj => by rw [← Addr.add_mid]; exact h4 j hj
          refine ⟨b, off, rfl, cell_lt (hc 0 (by omega)), fun j hj => ?_⟩
          rw [hl] at hj
          rw [hc j (by omega)]
          have hjz : j < zs.length := by omega
          have e1 : ((zs.take len).map Int.toNat)[j]?.getD 0 = (zs.getD j 0).toNat := by
            rw [List.getElem?_map, List.getElem?_take_of_lt hj, List.getElem?_eq_getElem hjz]
            simp [List.getD, hjz]
          have e2 := bounds_u8 (h5 (zs.getD j 0) (by simp [List.getD, hjz]))
          rw [e1, Int.toNat_of_nonneg e2.1]
end Go.Proofs.Ytlccdceeppfleab
