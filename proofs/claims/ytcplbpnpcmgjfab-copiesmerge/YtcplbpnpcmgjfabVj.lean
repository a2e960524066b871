/- CopiesMerge's run. -/
import Derived.Test.YtcplbpnpcmgjfabVi
namespace Go.Proofs.Ytcplbpnpcmgjfab
open Go.RowKit
def mgH (len T1 T2 : Nat) (g : Nat → List Value) (M C : Cp) (o : AObj) : List AObj := [.recs cpK len g, .cells T1 (cvCells M), .cells T2 (cvCells C), o]
def mgR (len T1 T2 : Nat) (g : Nat → List Value) (M C : Cp) : Out := .done .ret ⟨[some (.bool false)], mgH len T1 T2 g M C .gone⟩
def mgS (len cap : Nat) (v : Value) : List Value := [.slice (some ⟨0, 0, none⟩) len cap, .pointer (some ⟨1, 0, none⟩), .pointer (some ⟨2, 0, none⟩), v]
theorem run_mgB0 (len cap T1 T2 : Nat) (g : Nat → List Value) (M C : Cp) : ev K8 noL (bodyOf Try.f4 0) ⟨mkSlots 86 [0, 3, 5, 6, 7] [.slice (some ⟨0, 0, none⟩) len cap, .pointer (some ⟨1, 0, none⟩), .pointer (some ⟨2, 0, none⟩), .slice none 0 0, .int .i64 (0 : Nat)], mgH len T1 T2 g M C .gone⟩ (pkR 86 keepMg 3 3) =
    tst (decide (((0 : Nat) : Int) < (len : Int))) (Out.ask ((0 : Int) ≤ (0 : Int) ∧ (0 : Int) < (len : Int)) (Out.ask (0 < len) (Out.ask ((0 : Int) ≤ (0 : Int) ∧ (0 : Int) < (len : Int)) (Out.ask (0 < len) (tst (soE C (cpOf (g 0)) != (0 : Int)) (mgR len T1 T2 g M C) (tst (soE (cpOf (g 0)) M != (0 : Int)) (mgR len T1 T2 g M C) (Out.ask ((32 : Nat) ≤ 140737488355328) (Out.all fun c =>
      Out.done .normal ⟨someL (mgS len cap (.slice (some ⟨3, 0, none⟩) 1 c) ++ [.int .i64 (1 : Int)]), mgH len T1 T2 g M (soV C (cpOf (g 0))) (.row 25 cpK 1 c (joinG 0 (fun _ => []) (bl (soV (cpOf (g 0)) M))))⟩))))))))
      (Out.done (.exit 0) ⟨someL (mgS len cap (.slice none 0 0)), mgH len T1 T2 g M C .gone⟩) := by kernel_rfl
theorem run_mgB1 (len cap T1 T2 k c : Nat) (g G : Nat → List Value) (M C : Cp) : ev K8 noL (bodyOf Try.f4 0) ⟨mkSlots 86 [0, 3, 5, 6, 7] [.slice (some ⟨0, 0, none⟩) len cap, .pointer (some ⟨1, 0, none⟩), .pointer (some ⟨2, 0, none⟩), .slice (some ⟨3, 0, none⟩) k c, .int .i64 k], mgH len T1 T2 g M C (.row 25 cpK k c G)⟩ (pkR 86 keepMg 3 3) =
    tst (decide ((k : Int) < (len : Int))) (Out.ask ((0 : Int) ≤ (k : Int) ∧ (k : Int) < (len : Int)) (Out.ask (k < len) (Out.ask ((0 : Int) ≤ (k : Int) ∧ (k : Int) < (len : Int)) (Out.ask (k < len) (tst (soE C (cpOf (g k)) != (0 : Int)) (mgR len T1 T2 g M C) (tst (soE (cpOf (g k)) M != (0 : Int)) (mgR len T1 T2 g M C) (Out.ask (k = k ∧ c = c) (Out.ask ((k + 1) * 32 ≤ 140737488355328) (Out.all fun c =>
      Out.done .normal ⟨someL (mgS len cap (.slice (some ⟨3, 0, none⟩) (k + 1) c) ++ [.int .i64 (IntKind.wrap IntKind.i64 ((k : Int) + (1 : Int)))]), mgH len T1 T2 g M (soV C (cpOf (g k))) (.row 25 cpK (k + 1) c (joinG k G (bl (soV (cpOf (g k)) M))))⟩)))))))))
      (Out.done (.exit 0) ⟨someL (mgS len cap (.slice (some ⟨3, 0, none⟩) k c)), mgH len T1 T2 g M C (.row 25 cpK k c G)⟩) := by kernel_rfl
theorem run_mg (len cap : Nat) (g : Nat → List Value) : evV K8 lMg Try.f4 [.slice (some ⟨0, 0, none⟩) len cap] [.recs cpK len g] = Out.ask (len ≤ len ∧ len ≤ (140737488355328 : Nat)) (tst (clE (cpsOf len g) != (0 : Int)) (Out.done AE.ret { slots := [some (Value.bool (bif true then decide (((Prod.fst (Prod.fst (mgV (cpsOf len g))), Prod.snd (Prod.fst (mgV (cpsOf len g)))), Prod.snd (mgV (cpsOf len g))) = (((0 : Int), (0 : Int)), { data := #[] })) else !decide (((Prod.fst (Prod.fst (mgV (cpsOf len g))), Prod.snd (Prod.fst (mgV (cpsOf len g)))), Prod.snd (mgV (cpsOf len g))) = (((0 : Int), (0 : Int)), { data := #[] }))))], heap := [] }) (tst ((↑len : Int) == (0 : Int)) (Out.done AE.ret { slots := [some (Value.bool (bif true then decide (((Prod.fst (Prod.fst (mgV (cpsOf len g))), Prod.snd (Prod.fst (mgV (cpsOf len g)))), Prod.snd (mgV (cpsOf len g))) = (((0 : Int), (0 : Int)), { data := #[] })) else !decide (((Prod.fst (Prod.fst (mgV (cpsOf len g))), Prod.snd (Prod.fst (mgV (cpsOf len g)))), Prod.snd (mgV (cpsOf len g))) = (((0 : Int), (0 : Int)), { data := #[] }))))], heap := [] }) (Out.ask ((0 : Int) ≤ (0 : Int) ∧ (0 : Int) < (↑len : Int)) (Out.ask ((0 : Nat) < len) (Out.ask ((0 : Int) = (0 : Int) ∧ len = len ∧ (0 : Nat) < len ∧ len ≤ (12 : Nat) ∧ clE (cpsOf len g) = (0 : Int) ∧ mgV (cpsOf len g) = lats (cpsOf len g) ∧ ((intV (hdV (g (0 : Nat))), intV (hdV (tlV (g (0 : Nat))))), strV (hdV (tlV (tlV (g (0 : Nat)))))) = ((intV (hdV (g (0 : Nat))), intV (hdV (tlV (g (0 : Nat))))), strV (hdV (tlV (tlV (g (0 : Nat))))))) (Out.all fun _ => Out.ask (len ≤ len ∧ len ≤ (140737488355328 : Nat)) (tst (bif true then decide (((Prod.fst (Prod.fst (lats (cpsOf len g))), Prod.snd (Prod.fst (lats (cpsOf len g)))), Prod.snd (lats (cpsOf len g))) = ((Prod.fst (Prod.fst (mgV (cpsOf len g))), Prod.snd (Prod.fst (mgV (cpsOf len g)))), Prod.snd (mgV (cpsOf len g)))) else !decide (((Prod.fst (Prod.fst (lats (cpsOf len g))), Prod.snd (Prod.fst (lats (cpsOf len g)))), Prod.snd (lats (cpsOf len g))) = ((Prod.fst (Prod.fst (mgV (cpsOf len g))), Prod.snd (Prod.fst (mgV (cpsOf len g)))), Prod.snd (mgV (cpsOf len g))))) (tst ((↑(slV (cpsOf len (frK (cpsOf len g) (lats (cpsOf len g)) len))) : Int) == (0 : Int)) (Out.done AE.ret { slots := [some (Value.bool (clE (cpsOf len (frK (cpsOf len g) (lats (cpsOf len g)) len)) == (0 : Int)))], heap := [] }) (Out.done AE.ret { slots := [some (Value.bool false)], heap := [] })) (Out.done AE.ret { slots := [some (Value.bool false)], heap := [] })))))))) := by kernel_rfl
/-- the copy behind the first k stores -/
def cK (L : List Cp) : Nat → Cp
  | 0 => L[0]?.getD cz
  | k + 1 => ltr (cK L k) (L[k]?.getD cz)
theorem ltr_same (a : Cp) : ltr a a = a := by
  unfold ltr
  rw [slt_irr]
  rfl
theorem cK_lat {L : List Cp} : ∀ k, k + 1 ≤ L.length → cK L (k + 1) = latK L (k + 1)
  | 0, _ => by
    rw [latK_one]
    exact ltr_same _
  | k + 1, h => by
    rw [latK_step (by omega) (by omega), ← cK_lat k (by omega)]
    rfl
theorem cK_ok {L : List Cp} (h : ∀ j, j < L.length → cck (L[j]?.getD cz) = 0) (h0 : 0 < L.length) : ∀ k, k ≤ L.length → cck (cK L k) = 0
  | 0, _ => h 0 h0
  | k + 1, hk => by
    show cck (ltr (cK L k) (L[k]?.getD cz)) = 0
    rcases ltr_or (cK L k) (L[k]?.getD cz) with e | e <;> rw [e]
    · exact cK_ok h h0 k (by omega)
    · exact h k (by omega)
theorem frK_at {L : List Cp} {M : Cp} {j : Nat} : ∀ k, j < k → cpOf (frK L M k j) = ltr (L[j]?.getD cz) M
  | 0, h => by omega
  | k + 1, h => by
    show cpOf (bif Nat.blt j k then frK L M k j else bl (ltr (L[k]?.getD cz) M) (j - k)) = _
    by_cases e : j < k
    · have : Nat.blt j k = true := by rw [Nat.blt_eq]; exact e
      rw [this]
      exact frK_at k e
    · have hj : j = k := by omega
      subst hj
      have : Nat.blt j j = false := by
        cases h : Nat.blt j j with
        | false => rfl
        | true => rw [Nat.blt_eq] at h; omega
      rw [this, Nat.sub_self]
      rfl
theorem slK_zero {L : List Cp} {m : St} : ∀ k, (∀ j, j < k → slt (L[j]?.getD cz).1 m = false) → slK L m k = 0
  | 0, _ => rfl
  | k + 1, h => by
    rw [slK, slK_zero k fun j hj => h j (by omega), h k (by omega)]
    rfl
theorem fresh_ok {L F : List Cp} (hL : clE L = 0) (h0 : 0 < L.length) (hl : F.length = L.length) (hF : ∀ j, j < F.length → F[j]?.getD cz = ltr (L[j]?.getD cz) (lats L)) : clE F = 0 ∧ slV F = 0 := by
  have hne : L ≠ [] := fun e => by rw [e] at h0; simp at h0
  obtain ⟨z1, z2⟩ := clE_zero hL
  have hk : ∀ j, j < L.length → cck (L[j]?.getD cz) = 0 := fun j hj => by rw [List.getElem?_eq_getElem hj]; exact z2 _ (List.getElem_mem hj)
  obtain ⟨j0, t0, e0⟩ := lats_top (L := L) h0
  have st : ∀ j, j < F.length → (F[j]?.getD cz).1 = (lats L).1 := fun j hj => by
    rw [hF j hj]
    refine slt_anti (ltr_ge _ _).2 ?_
    rcases ltr_or (L[j]?.getD cz) (lats L) with e | e <;> rw [e]
    · rw [e0]; exact t0.2.1 j (by omega)
    · exact slt_irr _
  have e : clE F = 0 := by
    refine clE_of (by omega) fun c hc => ?_
    obtain ⟨j, hj⟩ := List.mem_iff_getElem?.1 hc
    have hjl := (List.getElem?_eq_some_iff.1 hj).1
    have := hF j hjl
    rw [hj] at this
    rw [show c = ltr (L[j]?.getD cz) (lats L) from this]
    rcases ltr_or (L[j]?.getD cz) (lats L) with e | e <;> rw [e]
    · exact hk j (by omega)
    · exact lats_ok hne hL
  refine ⟨e, ?_⟩
  rw [show slV F = slK F (lats F).1 F.length from if_pos e]
  obtain ⟨j1, t1, e1⟩ := lats_top (L := F) (by omega)
  exact slK_zero _ fun j hj => by rw [st j hj, e1, st j1 t1.1]; exact slt_irr _
end Go.Proofs.Ytcplbpnpcmgjfab
