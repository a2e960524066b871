/- CopiesMerge: its loop. -/
import Derived.Test.YtcplbpnpcmgjfabVj
namespace Go.Proofs.Ytcplbpnpcmgjfab
open Go.RowKit
def mgI (m cap : Nat) : Nat → Nat → List Value
  | 0, _ => mgS m cap (.slice none 0 0) ++ [.int .i64 (0 : Nat)]
  | k + 1, c => mgS m cap (.slice (some ⟨3, 0, none⟩) (k + 1) c) ++ [.int .i64 (k + 1 : Nat)]
def mgJ (m T1 T2 : Nat) (g : Nat → List Value) : Nat → Nat → List AObj
  | 0, _ => mgH m T1 T2 g (lats (cpsOf m g)) (cK (cpsOf m g) 0) .gone
  | k + 1, c => mgH m T1 T2 g (lats (cpsOf m g)) (cK (cpsOf m g) (k + 1)) (.row 25 cpK (k + 1) c (frK (cpsOf m g) (lats (cpsOf m g)) (k + 1)))
theorem loop_mg : LOk K8.P (bodyOf Try.f4 0) (lspecR 86 keepMg 3 gMg) := lspecR_ok K8_ok (L := noL) (fun c' _ F h => by cases h) fun Φ vs H k h => by
  unfold gMg at h
  split at h
  · rename_i m cap i sh n g T1 a b s T2 p q z
    split at h
    · rename_i hsh
      have := shEq_eq hsh
      subst this
      obtain ⟨⟨rfl, rfl, h0, h12, hE, hM, hC⟩, h⟩ := h
      have hlen := cps_len n g
      have hC' : ((p, q), z) = cK (cpsOf n g) 0 := by rw [hC]; exact (cps_at g h0).symm
      have z2 : ∀ j, j < (cpsOf n g).length → cck ((cpsOf n g)[j]?.getD cz) = 0 := fun j hj => by rw [List.getElem?_eq_getElem hj]; exact (clE_zero hE).2 _ (List.getElem_mem hj)
      have hne : cpsOf n g ≠ [] := cps_ne (by omega)
      have hMok := lats_ok hne hE
      refine ⟨rfl, {j : Nat // j ≤ n} × Nat, fun x => mgI n cap x.1.1 x.2, fun x => mgJ n T1 T2 g x.1.1 x.2, fun x => n - x.1.1, (⟨0, by omega⟩, 0), rfl, ?_, ?_⟩
      · show mgH n T1 T2 g (lats (cpsOf n g)) (cK (cpsOf n g) 0) .gone = _
        rw [← hM, ← hC']
        rfl
      have step : ∀ k, k < n → cck (cpOf (g k)) = 0 ∧ soE (cK (cpsOf n g) k) (cpOf (g k)) = 0 ∧ soE (cpOf (g k)) (lats (cpsOf n g)) = 0 ∧ soV (cK (cpsOf n g) k) (cpOf (g k)) = cK (cpsOf n g) (k + 1) ∧ soV (cpOf (g k)) (lats (cpsOf n g)) = ltr ((cpsOf n g)[k]?.getD cz) (lats (cpsOf n g)) := fun k hk => by
        have e := cps_at g hk
        have c1 : cck (cpOf (g k)) = 0 := by rw [← e]; exact z2 k (by omega)
        have c2 := cK_ok z2 (by omega) k (by omega)
        have s1 := soE_zero.2 ⟨c2, c1⟩
        have s2 := soE_zero.2 ⟨c1, hMok⟩
        refine ⟨c1, s1, s2, ?_, ?_⟩
        · rw [soV_yes s1, ← e]; rfl
        · rw [soV_yes s2, e]
      rintro ⟨⟨j, hj⟩, c⟩
      cases j with
      | zero =>
        show (ev K8 noL _ ⟨mkSlots 86 [0, 3, 5, 6, 7] [.slice (some ⟨0, 0, none⟩) n cap, .pointer (some ⟨1, 0, none⟩), .pointer (some ⟨2, 0, none⟩), .slice none 0 0, .int .i64 (0 : Nat)], mgH n T1 T2 g (lats (cpsOf n g)) (cK (cpsOf n g) 0) .gone⟩ (pkR 86 keepMg 3 3)).sat _
        rw [run_mgB0]
        obtain ⟨_, s1, s2, v1, v2⟩ := step 0 h0
        refine sat_tst (fun _ => sat_ask ⟨by omega, by omega⟩ (sat_ask h0 (sat_ask ⟨by omega, by omega⟩ (sat_ask h0 (sat_tst (fun h => ?_) fun _ => sat_tst (fun h => ?_) fun _ => sat_ask (by omega) fun c' => ?_))))) fun h => ?_
        · rw [s1] at h; cases h
        · rw [s2] at h; cases h
        · refine ⟨(⟨1, by omega⟩, c'), rfl, ?_, by show n - 1 < n - 0; omega⟩
          rw [v1, v2]
          rfl
        · have := of_decide_eq_false h
          omega
      | succ j =>
        show (ev K8 noL _ ⟨mkSlots 86 [0, 3, 5, 6, 7] [.slice (some ⟨0, 0, none⟩) n cap, .pointer (some ⟨1, 0, none⟩), .pointer (some ⟨2, 0, none⟩), .slice (some ⟨3, 0, none⟩) (j + 1) c, .int .i64 (j + 1 : Nat)], mgH n T1 T2 g (lats (cpsOf n g)) (cK (cpsOf n g) (j + 1)) (.row 25 cpK (j + 1) c (frK (cpsOf n g) (lats (cpsOf n g)) (j + 1)))⟩ (pkR 86 keepMg 3 3)).sat _
        rw [run_mgB1]
        refine sat_tst (fun ht => ?_) fun ht => ?_
        · have hlt : j + 1 < n := by have := of_decide_eq_true ht; omega
          obtain ⟨_, s1, s2, v1, v2⟩ := step (j + 1) hlt
          refine sat_ask ⟨by omega, by omega⟩ (sat_ask hlt (sat_ask ⟨by omega, by omega⟩ (sat_ask hlt (sat_tst (fun h => ?_) fun _ => sat_tst (fun h => ?_) fun _ => sat_ask ⟨rfl, rfl⟩ (sat_ask (by omega) fun c' => ?_)))))
          · rw [s1] at h; cases h
          · rw [s2] at h; cases h
          · refine ⟨(⟨j + 1 + 1, by omega⟩, c'), ?_, ?_, by show n - (j + 1 + 1) < n - (j + 1); omega⟩
            · rw [wrap_at hlt (by omega)]
              rfl
            · rw [v1, v2]
              rfl
        · have hge : j + 1 = n := by have := of_decide_eq_false ht; omega
          subst hge
          refine ⟨mgS (j + 1) cap (.slice (some ⟨3, 0, none⟩) (j + 1) c), rfl, ?_⟩
          have hc := h c
          have e : cK (cpsOf (j + 1) g) (j + 1) = lats (cpsOf (j + 1) g) := by
            rw [cK_lat j (by omega)]
            unfold lats
            rw [hlen]
          rw [e]
          have hM2 : mgH (j + 1) T1 T2 g (lats (cpsOf (j + 1) g)) (lats (cpsOf (j + 1) g)) (.row 25 cpK (j + 1) c (frK (cpsOf (j + 1) g) (lats (cpsOf (j + 1) g)) (j + 1))) = [.recs cpK (j + 1) g, .cells T1 [.int .i64 a, .int .i64 b, .string s], .cells T2 (cvCells (lats (cpsOf (j + 1) g))), .row 25 cpK (j + 1) c (frK (cpsOf (j + 1) g) (lats (cpsOf (j + 1) g)) (j + 1))] := by
            unfold mgH
            have : cvCells (lats (cpsOf (j + 1) g)) = [.int .i64 a, .int .i64 b, .string s] := by rw [← hM]; rfl
            rw [this]
          show (k (.exit 0) _ (mgH _ _ _ _ _ _ _)).sat Φ
          rw [hM2]
          exact hc
    · exact h.elim
  · exact h.elim
theorem lMg_ok : ∀ F, lMg (key (bodyOf Try.f4 0)) = some F → LOk K8.P (bodyOf Try.f4 0) F := fun F h => by
  have hk : lMg (key (bodyOf Try.f4 0)) = some (lspecR 86 keepMg 3 gMg) := by kernel_rfl
  rw [hk] at h
  cases h
  exact loop_mg
theorem mg_sat (len cap : Nat) (g : Nat → List Value) (hb : len ≤ 140737488355328) : (evV K8 lMg Try.f4 [.slice (some ⟨0, 0, none⟩) len cap] [.recs cpK len g]).sat fun _ S => S.slots = [some (.bool true)] := by
  rw [run_mg]
  refine sat_ask ⟨Nat.le_refl _, hb⟩ (sat_tst (fun h => ?_) fun h => ?_)
  · have h0 : clE (cpsOf len g) ≠ 0 := ne_of_bne h
    show [some (Value.bool (bif true then decide (mgV (cpsOf len g) = cz) else _))] = _
    rw [show mgV (cpsOf len g) = cz from if_neg h0]
    simp
  · have e := eq_of_bne h
    have mv : mgV (cpsOf len g) = lats (cpsOf len g) := if_pos e
    refine sat_tst (fun hl => ?_) fun hl => ?_
    · have : len = 0 := by simpa using hl
      subst this
      show [some (Value.bool (bif true then decide (mgV (cpsOf 0 g) = cz) else _))] = _
      rw [mv]
      rfl
    · have hl : len ≠ 0 := by simpa using hl
      have h12 := (clE_zero e).1
      rw [cps_len] at h12
      refine sat_ask ⟨by omega, by omega⟩ (sat_ask (by omega) (sat_ask ⟨rfl, rfl, by omega, h12, e, mv, rfl⟩ fun c => sat_ask ⟨Nat.le_refl _, hb⟩ ?_))
      obtain ⟨f1, f2⟩ := fresh_ok (L := cpsOf len g) (F := cpsOf len (frK (cpsOf len g) (lats (cpsOf len g)) len)) e (by rw [cps_len]; omega) (by rw [cps_len, cps_len]) fun j hj => by
        rw [cps_len] at hj
        rw [cps_at _ hj, frK_at len hj]
      rw [f1, f2]
      refine sat_tst (fun _ => sat_tst (fun _ => rfl) fun h => ?_) fun h => ?_
      · cases h
      · have h : (bif true then decide (lats (cpsOf len g) = mgV (cpsOf len g)) else !decide (lats (cpsOf len g) = mgV (cpsOf len g))) = false := h
        rw [mv] at h
        simp at h
end Go.Proofs.Ytcplbpnpcmgjfab
