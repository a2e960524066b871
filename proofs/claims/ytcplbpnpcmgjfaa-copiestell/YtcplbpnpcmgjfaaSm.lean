/- Mathematics of stamps: the greatest one, the next one. -/
import Derived.Test.YtcplbpnpcmgjfaaSc
namespace Go.Proofs.Ytcplbpnpcmgjfaa
theorem slt_iff (a b : St) : slt a b = true ↔ a.1 < b.1 ∨ a.1 = b.1 ∧ a.2 < b.2 := by unfold slt; exact decide_eq_true_iff
theorem slt_niff (a b : St) : slt a b = false ↔ ¬ (a.1 < b.1 ∨ a.1 = b.1 ∧ a.2 < b.2) := by unfold slt; exact decide_eq_false_iff_not
theorem slt_irr (a : St) : slt a a = false := (slt_niff a a).2 (by omega)
theorem slt_nn {a b c : St} (h1 : slt a b = false) (h2 : slt b c = false) : slt a c = false := by
  rw [slt_niff] at *
  omega
theorem slt_tr {a b c : St} (h1 : slt a b = true) (h2 : slt b c = true) : slt a c = true := by
  rw [slt_iff] at *
  omega
theorem slt_as {a b : St} (h : slt a b = true) : slt b a = false := by
  rw [slt_iff] at h
  rw [slt_niff]
  omega
theorem slt_anti {a b : St} (h1 : slt a b = false) (h2 : slt b a = false) : a = b := by
  rw [slt_niff] at *
  exact Prod.ext (by omega) (by omega)
theorem smx_ge : ∀ (L : List St) (g : St), slt (smx g L) g = false ∧ ∀ p ∈ L, slt (smx g L) p = false
  | [], g => ⟨slt_irr g, fun p hp => by cases hp⟩
  | p :: L, g => by
    rw [smx_cons]
    obtain ⟨h1, h2⟩ := smx_ge L (if slt g p = true then p else g)
    have hg : slt (if slt g p = true then p else g) g = false := by
      split
      · rename_i h; exact slt_as h
      · exact slt_irr g
    have hp : slt (if slt g p = true then p else g) p = false := by
      split
      · exact slt_irr p
      · rename_i h; simpa using h
    refine ⟨slt_nn h1 hg, fun q hq => ?_⟩
    rcases List.mem_cons.1 hq with rfl | hq
    · exact slt_nn h1 hp
    · exact h2 q hq
theorem smx_uniq {L : List St} {g m : St} (h0 : m = g ∨ m ∈ L) (h1 : slt m g = false) (h2 : ∀ p ∈ L, slt m p = false) : smx g L = m := by
  obtain ⟨k1, k2⟩ := smx_ge L g
  refine slt_anti ?_ ?_
  · rcases h0 with rfl | h0
    · exact k1
    · exact k2 m h0
  · rcases smx_mem L g with e | e
    · rw [e]; exact h1
    · exact h2 _ e
theorem smx_rev (g : St) (L : List St) : smx g L.reverse = smx g L := by
  obtain ⟨k1, k2⟩ := smx_ge L g
  exact smx_uniq (by rw [List.mem_reverse]; exact smx_mem L g) k1 (fun p hp => k2 p (List.mem_reverse.1 hp))
theorem smx_app (g : St) (L M : List St) : smx g (L ++ M) = if slt (smx g L) (smx g M) = true then smx g M else smx g L := by
  obtain ⟨k1, k2⟩ := smx_ge L g
  obtain ⟨j1, j2⟩ := smx_ge M g
  by_cases c : slt (smx g L) (smx g M) = true
  · rw [if_pos c]
    refine smx_uniq ?_ j1 (fun p hp => ?_)
    · rcases smx_mem M g with h | h
      · exact .inl h
      · exact .inr (List.mem_append_right _ h)
    · rcases List.mem_append.1 hp with h | h
      · exact slt_nn (slt_as c) (k2 p h)
      · exact j2 p h
  · rw [if_neg c]
    have c : slt (smx g L) (smx g M) = false := by simpa using c
    refine smx_uniq ?_ k1 (fun p hp => ?_)
    · rcases smx_mem L g with h | h
      · exact .inl h
      · exact .inr (List.mem_append_left _ h)
    · rcases List.mem_append.1 hp with h | h
      · exact k2 p h
      · exact slt_nn c (j2 p h)
theorem mxV_yes {L : List St} (h : mxE L = 0) : mxV L = smx (0, 0) L := if_pos h
theorem mxV_no {L : List St} (h : mxE L ≠ 0) : mxV L = (0, 0) := if_neg h
theorem mx_ge {L : List St} (h : mxE L = 0) {i : Nat} (hi : i < L.length) : slt (mxV L) (L[i]?.getD (0, 0)) = false := by
  rw [mxV_yes h, List.getElem?_eq_getElem hi]
  exact (smx_ge L (0, 0)).2 _ (List.getElem_mem hi)
/-- no right stamp is below the first one -/
theorem slt_first {p : St} (h : Sok p) : slt p (0, 0) = false := by
  obtain ⟨a, b, c, d⟩ := h
  rw [slt_niff]
  simp only
  omega
theorem mx_in {L : List St} (h : mxE L = 0) (hn : L ≠ []) : mxV L ∈ L := by
  rw [mxV_yes h]
  rcases smx_mem L (0, 0) with e | e
  · cases L with
    | nil => exact absurd rfl hn
    | cons p L =>
      have h1 := (smx_ge (p :: L) (0, 0)).2 p (List.mem_cons_self ..)
      rw [e] at h1 ⊢
      have h2 := slt_first ((mx_zero h).2 p (List.mem_cons_self ..))
      rw [slt_anti h1 h2]
      exact List.mem_cons_self ..
  · exact e
theorem mx_app {L M : List St} (h1 : mxE L = 0) (h2 : mxE M = 0) (h3 : mxE (L ++ M) = 0) : mxV (L ++ M) = if slt (mxV L) (mxV M) = true then mxV M else mxV L := by
  rw [mxV_yes h1, mxV_yes h2, mxV_yes h3, smx_app]
theorem nx_zero {L : List St} {u : Int} (h : nxE L u = 0) : mxE L = 0 ∧ sck ((mxV L).1 + 1, u) = 0 := by
  unfold nxE at h
  split at h
  · exact ⟨by assumption, h⟩
  · contradiction
theorem nxV_yes {L : List St} {u : Int} (h : nxE L u = 0) : nxV L u = ((mxV L).1 + 1, u) := if_pos h
theorem nxV_no {L : List St} {u : Int} (h : nxE L u ≠ 0) : nxV L u = (0, 0) := if_neg h
theorem nx_ok {L : List St} {u : Int} (h : nxE L u = 0) : sck (nxV L u) = 0 := by
  rw [nxV_yes h]
  exact (nx_zero h).2
theorem nx_above {L : List St} {u : Int} (h : nxE L u = 0) {i : Nat} (hi : i < L.length) : slt (L[i]?.getD (0, 0)) (nxV L u) = true := by
  have h1 := mx_ge (nx_zero h).1 hi
  rw [nxV_yes h, slt_iff]
  rw [slt_niff] at h1
  simp only
  omega
theorem nx_same {L : List St} {a b : Int} (h : nxE L a = 0) (k : nxE L b = 0) : nxV L a = nxV L b ↔ a = b := by
  rw [nxV_yes h, nxV_yes k, Prod.mk.injEq]
  exact ⟨fun h => h.2, fun h => ⟨rfl, h⟩⟩
end Go.Proofs.Ytcplbpnpcmgjfaa
