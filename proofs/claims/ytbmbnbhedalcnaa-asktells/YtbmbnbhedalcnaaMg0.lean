/- Next of one stamp; choose and hear as they are written. -/
import Derived.Test.YtbmbnbhedalcnaaMf
namespace Go.Proofs.Ytbmbnbhedalcnaa
open Go.RowKit
def nxE (t w who : Int) : Int := bif sck (t, w) != 0 then sck (t, w) else sck (IntKind.wrap .i64 (t + 1), who)
def nxT (t w who : Int) : Int := bif nxE t w who != 0 then 0 else IntKind.wrap .i64 (t + 1)
def nxW (t w who : Int) : Int := bif nxE t w who != 0 then 0 else who
def gNx : List CA → Option Value
  | [.rows sh m g, .val (.int .i64 who)] => (match Nat.beq m 1 with
    | true => some (.tuple ⟨[.agg ⟨[.int .i64 (nxT (intV (hdV (g 0))) (intV (hdV (tlV (g 0)))) who), .int .i64 (nxW (intV (hdV (g 0))) (intV (hdV (tlV (g 0)))) who)]⟩, .int .i64 (nxE (intV (hdV (g 0))) (intV (hdV (tlV (g 0)))) who)]⟩)
    | false => g_next [.rows sh m g, .val (.int .i64 who)])
  | _ => none
theorem max_one (g : Nat → List Value) : maxE 1 g = sck (stp (g 0)) ∧ (sck (stp (g 0)) = 0 → maxV 1 g = stp (g 0)) := by
  have h1 : mxE g 1 = sck (stp (g 0)) := rfl
  refine ⟨h1, fun h => ?_⟩
  have h2 : maxE 1 g = 0 := h1.trans h
  unfold maxV
  rw [h2]
  show mxW g 1 = _
  obtain ⟨_, e⟩ := mxE_step (g := g) (j := 0) rfl h
  rw [e]
  show (bif slt (0, 0) (stp (g 0)) then stp (g 0) else (0, 0)) = stp (g 0)
  cases hs : slt (0, 0) (stp (g 0)) with
  | true => rfl
  | false =>
    have hs := of_decide_eq_false hs
    unfold sck at h
    split at h
    · omega
    · rename_i h3
      show ((0, 0) : St) = stp (g 0)
      have e1 : (stp (g 0)).1 = 0 := by omega
      have e2 : (stp (g 0)).2 = 0 := by omega
      exact Prod.ext e1.symm e2.symm
theorem sck_nz {p : St} : (sck p != 0) = true ∨ sck p = 0 := by
  rcases sck_or p with h | h
  · exact .inr h
  · exact .inl (by rw [h]; rfl)
theorem next_one (g : Nat → List Value) (who : Int) : x0_next 1 g who = nxT (intV (hdV (g 0))) (intV (hdV (tlV (g 0)))) who ∧ x1_next 1 g who = nxW (intV (hdV (g 0))) (intV (hdV (tlV (g 0)))) who ∧ x2_next 1 g who = nxE (intV (hdV (g 0))) (intV (hdV (tlV (g 0)))) who := by
  obtain ⟨h1, h2⟩ := max_one g
  have eta : (fun j => g j) = g := rfl
  have e0 : stp (g 0) = (intV (hdV (g 0)), intV (hdV (tlV (g 0)))) := rfl
  rw [e0] at h1 h2
  unfold x0_next x1_next x2_next nxT nxW nxE
  rw [eta, h1]
  rcases sck_nz (p := (intV (hdV (g 0)), intV (hdV (tlV (g 0))))) with h | h
  · have h' : (bif true then sck (intV (hdV (g 0)), intV (hdV (tlV (g 0)))) else sck (IntKind.wrap .i64 (intV (hdV (g 0)) + 1), who)) = sck (intV (hdV (g 0)), intV (hdV (tlV (g 0)))) := rfl
    simp only [h, h', cond_true, and_self]
  · rw [h2 h, h]
    simp only [show ((0 : Int) != 0) = false from rfl, cond_false]
    rcases sck_nz (p := (IntKind.wrap .i64 (intV (hdV (g 0)) + 1), who)) with h3 | h3
    · simp only [h3, cond_true, and_self]
    · rw [h3]
      simp only [show ((0 : Int) != 0) = false from rfl, cond_false, and_self]
theorem gNx_eq : gNx = g_next := by
  funext cas
  unfold gNx
  split
  · rename_i sh m g who
    split
    · rename_i hb
      rw [Nat.beq_eq] at hb
      subst hb
      obtain ⟨h1, h2, h3⟩ := next_one g who
      show _ = some _
      rw [← h1, ← h2, ← h3]
    · rfl
  · rename_i hn
    unfold g_next
    split
    · rename_i sh m g who
      exact (hn sh m g who rfl).elim
    · rfl
noncomputable def K19 : Kn := K18.addQ 25 (listC [.one (.rows stK), .one .val] gNx)
theorem q_nx : QOk K18.P 25 (listC [.one (.rows stK), .one .val] gNx) := by rw [gNx_eq]; exact q_next
theorem K19_ok : K19.Ok := K18_ok.addQ q_nx
noncomputable def K20 : Kn := K19.addM 52 (inl K19 noL Try.f52)
theorem K20_ok : K20.Ok := K19_ok.addM (inl_ok K19_ok Try.func52 rfl rfl (no_loops rfl))
noncomputable def K21 : Kn := K20.addM 28 (inl K20 noL Try.f28)
theorem K21_ok : K21.Ok := K20_ok.addM (inl_ok K20_ok Try.func28 rfl rfl (no_loops rfl))
theorem achk_q {m : Nat} {g : Nat → List Value} {need op k p : Int} {d : ByteArray} {t w : Int} {s : ByteArray} {hd : Int} (h : (x_achk m g need op k p d t w s hd != (0 : Int)) = false) : qE (wsOf m g) need = 0 := by
  have h := eq_of_bne h
  unfold x_achk at h
  have eta : (wsOf m fun j => g j) = wsOf m g := rfl
  rw [eta] at h
  cases e : (qE (wsOf m g) need != (0 : Int)) with
  | true => rw [e] at h; exact h
  | false => exact eq_of_bne e
theorem qE_m {L : List Int} {need : Int} (h : qE L need = 0) : L.length ≤ 12 ∧ 0 < L.length ∧ anyB L = false ∧ 1 ≤ need ∧ need ≤ totK L L.length ∧ totK L L.length < 2 * need := by
  unfold qE at h
  by_cases h1 : wE L ≠ 0
  · rw [if_pos h1] at h; exact absurd h h1
  · have h1 : wE L = 0 := by omega
    rw [h1, if_neg (by decide)] at h
    unfold wE at h1
    have h2 : L.length ≤ 12 ∧ 0 < L.length ∧ anyB L = false := by
      by_cases e1 : L.length = 0
      · rw [if_pos e1] at h1; omega
      · rw [if_neg e1] at h1
        by_cases e2 : 12 < L.length
        · rw [if_pos e2] at h1; omega
        · rw [if_neg e2] at h1
          cases e3 : anyB L with
          | false => exact ⟨by omega, by omega, rfl⟩
          | true => rw [e3, if_pos rfl] at h1; omega
    refine ⟨h2.1, h2.2.1, h2.2.2, ?_⟩
    by_cases e1 : need < 1 ∨ totK L L.length < need
    · rw [if_pos e1] at h; omega
    · rw [if_neg e1] at h
      by_cases e2 : 2 * need ≤ totK L L.length
      · rw [if_pos e2] at h; omega
      · omega
theorem achk_m {m : Nat} {g : Nat → List Value} {need op k p : Int} {d : ByteArray} {t w : Int} {s : ByteArray} {hd : Int} (h : (x_achk m g need op k p d t w s hd != (0 : Int)) = false) : m ≤ 12 := by
  have := (qE_m (achk_q h)).1
  rw [ws_len] at this
  exact this
theorem wchk_n {k op n t w : Int} {s : ByteArray} (h : (x_wchk k op n t w s != (0 : Int)) = false) : 0 ≤ n := by
  have h := eq_of_bne h
  rcases Int.lt_or_le n 0 with hn | hn
  · exfalso
    have h3 : decide (n < (0 : Int)) = true := decide_eq_true hn
    unfold x_wchk at h
    rw [h3] at h
    revert h
    cases (!x_wkind k) <;> cases decide (op < (0 : Int)) <;> cases decide (op ≥ (31 : Int)) <;> simp
  · exact hn
end Go.Proofs.Ytbmbnbhedalcnaa
