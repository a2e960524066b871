/- A symbolic run of Go code: loops that grow one list of ours. -/
import Derived.Test.YtcplbpnpcmgjfabYt
namespace Go.Proofs.Ytcplbpnpcmgjfab
open Go.RowKit
/-- the first m numbers as they were, and the i-th as the next one -/
def pick (ρ : Ren) (m i : Nat) : Ren := fun j => bif Nat.blt j m then ρ j else bif Nat.beq j m then ρ i else none
theorem pick_lo {ρ : Ren} {m i j : Nat} (h : j < m) : pick ρ m i j = ρ j := by
  have : Nat.blt j m = true := by rw [Nat.blt_eq]; exact h
  unfold pick; rw [this]; rfl
theorem pick_at {ρ : Ren} {m i : Nat} : pick ρ m i m = ρ i := by
  have h1 : Nat.blt m m = false := by
    cases h : Nat.blt m m with
    | false => rfl
    | true => rw [Nat.blt_eq] at h; omega
  have h2 : Nat.beq m m = true := by rw [Nat.beq_eq]
  unfold pick; rw [h1, h2]; rfl
theorem pick_some {ρ : Ren} {m i j : Nat} {l : Loc} (h : pick ρ m i j = some l) : (j < m ∧ ρ j = some l) ∨ (j = m ∧ ρ i = some l) := by
  by_cases h1 : j < m
  · rw [pick_lo h1] at h; exact .inl ⟨h1, h⟩
  · by_cases h2 : j = m
    · subst h2; rw [pick_at] at h; exact .inr ⟨rfl, h⟩
    · have e1 : Nat.blt j m = false := by
        cases h : Nat.blt j m with
        | false => rfl
        | true => rw [Nat.blt_eq] at h; omega
      have e2 : Nat.beq j m = false := by
        cases h : Nat.beq j m with
        | false => rfl
        | true => rw [Nat.beq_eq] at h; omega
      unfold pick at h
      rw [e1, e2] at h
      cases h
theorem cut_pick {ρ : Ren} {m i : Nat} : RLe (cut ρ m) (pick ρ m i) := fun j l e => by
  unfold cut at e
  cases hb : Nat.blt j m with
  | false => rw [hb] at e; cases e
  | true => rw [hb] at e; rw [Nat.blt_eq] at hb; exact (pick_lo hb).trans e
/-- MEMORY THAT IS NO LONGER NAMED IS LEFT, the growing list aside. -/
theorem HC.pick {base : Nat} {w0 w : World} {ρ : Ren} {H : List AObj} (h : HC base w0 ρ H w) {m i : Nat} (hm : m ≤ H.length) (hs : allO (scO m) (H.take m) = true) (hi : m ≤ i) {e n c : Nat} {sh : List LK} {g : Nat → List Value} (ho : H[i]? = some (.row e sh n c g)) :
    HC base w0 (Go.Proofs.Ytcplbpnpcmgjfab.pick ρ m i) (H.take m ++ [.row e sh n c g]) w := by
  have hk := h.take hm hs
  have hlen : (H.take m).length = m := by simp; omega
  have get : ∀ (j : Nat) o, (H.take m ++ [AObj.row e sh n c g])[j]? = some o → (j < m ∧ (H.take m)[j]? = some o) ∨ (j = m ∧ o = .row e sh n c g) := fun j o hj => by
    rw [List.getElem?_append] at hj
    split at hj
    · rename_i hlt
      exact .inl ⟨by omega, hj⟩
    · have hjm : j = m := by
        rcases Nat.lt_or_ge m j with hlt | hge
        · rw [List.getElem?_eq_none (by simp; omega)] at hj; cases hj
        · omega
      subst hjm
      rw [hlen, Nat.sub_self] at hj
      cases hj
      exact .inr ⟨rfl, rfl⟩
  have old : ∀ (j : Nat) o, (H.take m)[j]? = some o → H[j]? = some o := fun j o hj => by
    rw [List.getElem?_take] at hj
    split at hj
    · exact hj
    · cases hj
  refine ⟨h.below, h.floor, ?_, ?_, ?_, ?_⟩
  · intro j o hj
    rcases get j o hj with ⟨hj1, hj⟩ | ⟨rfl, rfl⟩
    · exact (hk.obj j o hj).mono cut_pick
    · obtain ⟨l, h1, h2⟩ := h.obj i _ ho
      exact ⟨l, pick_at.trans h1, h2⟩
  · intro j l e
    rw [List.length_append, hlen]
    show j < m + 1
    rcases pick_some e with ⟨h1, _⟩ | ⟨h1, _⟩ <;> omega
  · intro j b s z e
    rcases pick_some e with ⟨_, h1⟩ | ⟨_, h1⟩
    · exact h.lt j b s z h1
    · exact h.lt i b s z h1
  · intro j1 j2 o1 b s z c' s' z' o h1 ho1 h2 hg e1 e2 hne
    rcases get j1 o1 h1 with ⟨g1, h1⟩ | ⟨rfl, rfl⟩
    · rw [pick_lo g1] at e1
      rcases get j2 o h2 with ⟨g2, h2⟩ | ⟨rfl, rfl⟩
      · rw [pick_lo g2] at e2
        exact h.apart j1 j2 o1 b s z c' s' z' o (old _ _ h1) ho1 (old _ _ h2) hg e1 e2 hne
      · rw [pick_at] at e2
        exact h.apart j1 i o1 b s z c' s' z' _ (old _ _ h1) ho1 ho hg e1 e2 (by omega)
    · rw [pick_at] at e1
      rcases get j2 o h2 with ⟨g2, h2⟩ | ⟨rfl, rfl⟩
      · rw [pick_lo g2] at e2
        exact h.apart i j2 _ b s z c' s' z' o ho rfl (old _ _ h2) hg e1 e2 (by omega)
      · exact absurd rfl hne
/-- what is kept of a state: these slots (the r-th of them the growing list), so many of memory's objects, and the list -/
def pkR (N : Nat) (keep : AE → List Nat) (m r : Nat) (e : AE) (S : ASt) : Out :=
  match gather S.slots (keep e) with
  | some vs => (match Nat.beq S.slots.length N && Nat.ble m S.heap.length && allO (scO m) (takeH m S.heap) with
    | true => (match nthL vs r with
      | some (.slice (some ⟨i, 0, none⟩) l c) => (match nthL S.heap i with
        | some (.row e' sh n c' g) => (match Nat.ble m i && allB (sc2 m) (setL vs r undef) with
          | true => .done e ⟨someL (setL vs r (.slice (some ⟨m, 0, none⟩) l c)), takeH m S.heap ++ [.row e' sh n c' g]⟩
          | false => .bad)
        | _ => .bad)
      | _ => (match allB (sc2 m) vs with
        | true => .done e ⟨someL vs, takeH m S.heap ++ [.gone]⟩
        | false => .bad))
    | false => .bad)
  | none => .bad
def lspecR (N : Nat) (keep : AE → List Nat) (m : Nat) (g : List Value → List AObj → (AE → List Value → List AObj → Out) → Out) : LCon := fun S k =>
  match gather S.slots (keep .normal) with
  | some vs => (match Nat.beq S.slots.length N && Nat.ble S.heap.length m with
    | true => g vs S.heap fun e vs H => k e ⟨mkSlots N (keep e) vs, H⟩
    | false => .bad)
  | none => .bad
theorem RLe_pick {ρ ρ' : Ren} {n m i : Nat} (hle : RLe ρ ρ') (hd : ∀ i l, ρ i = some l → i < n) (hm : n ≤ m) : RLe ρ (pick ρ' m i) := fun j l e => (pick_lo (by have := hd j l e; omega)).trans (hle j l e)
/-- slots that are kept, one of them renumbered -/
theorem gatherR_ok {ρ ρ' : Ren} {S : List (Option Value)} {a : Act} {N : Nat} {ts : List Nat} {vs vs' : List Value} (h : SC ρ S a) (hl : S.length = N) (hg : gather S ts = some vs) (hr : ∀ (i : Nat) v', vs'[i]? = some v' → ∃ v, vs[i]? = some v ∧ ∀ u, Rn ρ v u → Rn ρ' v' u) : SC ρ' (mkSlots N ts vs') a := by
  refine ⟨h.1, by rw [mkSlots_len, h.2.1, hl], fun t v e => ?_⟩
  have key : ∀ (ts : List Nat) (vs vs' : List Value), gather S ts = some vs → (∀ (i : Nat) v', vs'[i]? = some v' → ∃ v, vs[i]? = some v ∧ ∀ u, Rn ρ v u → Rn ρ' v' u) → nthO (mkSlots N ts vs') t = some v → ∃ v0, nthO S t = some v0 ∧ ∀ u, Rn ρ v0 u → Rn ρ' v u := fun ts => by
    induction ts with
    | nil => intro vs vs' _ _ e; rw [show mkSlots N [] vs' = noneL N by cases vs' <;> rfl, noneL_at] at e; cases e
    | cons t0 ts ih =>
      intro vs vs' hg hr e
      cases vs' with
      | nil => rw [show mkSlots N (t0 :: ts) [] = noneL N from rfl, noneL_at] at e; cases e
      | cons v1 vs' =>
        unfold gather at hg
        split at hg
        · rename_i v0 h0
          split at hg
          · rename_i vs2 hg2
            cases hg
            rw [mkSlots, nthO_set] at e
            split at e
            · rename_i hc
              cases e
              rw [← hc.1]
              obtain ⟨v9, hv, hx⟩ := hr 0 _ rfl
              simp at hv
              subst hv
              exact ⟨v0, h0, hx⟩
            · exact ih vs2 vs' hg2 (fun i v' hi => by simpa using hr (i + 1) v' (by simpa using hi)) e
          · cases hg
        · cases hg
  obtain ⟨v0, h1, h2⟩ := key ts vs vs' hg hr e
  obtain ⟨u, h3, h4⟩ := h.2.2 t v0 h1
  exact ⟨u, h3, h2 u h4⟩
/-- A LOOP IS AS ITS CONTRACT SAYS, if its rounds keep to it: one list of ours may grow in it. -/
theorem lspecR_ok {Kn : Kn} (hK : Kn.Ok) {L : Nat → Option LCon} {c : Code} (hL : ∀ c' ∈ loops c, ∀ F, L (key c') = some F → LOk Kn.P c' F) {N : Nat} {keep : AE → List Nat} {m r : Nat} {g : List Value → List AObj → (AE → List Value → List AObj → Out) → Out}
    (h : ∀ Φ vs H k, (g vs H k).sat Φ → H.length = m ∧ ∃ (ι : Type) (I : ι → List Value) (J : ι → List AObj) (μ : ι → Nat) (i0 : ι), I i0 = vs ∧ J i0 = H ++ [.gone] ∧
      ∀ i, (ev Kn L c ⟨mkSlots N (keep .normal) (I i), J i⟩ (pkR N keep m r)).sat fun e S => match e with
        | .normal => ∃ i', S.slots = someL (I i') ∧ S.heap = J i' ∧ μ i' < μ i
        | e => ∃ vs, S.slots = someL vs ∧ (k e vs S.heap).sat Φ) : LOk Kn.P c (lspecR N keep m g) := by
  intro Φ S k hs base w0 ρ0 a w hc hsc Q hq
  unfold lspecR at hs
  split at hs
  · rename_i vs hg
    split at hs
    · rename_i hb
      simp only [Bool.and_eq_true, Nat.beq_eq, Nat.ble_eq] at hb
      obtain ⟨hm, ι, I, J, μ, i0, e0, e1, hr⟩ := h Φ vs S.heap _ hs
      have hst : SC ρ0 (mkSlots N (keep .normal) (I i0)) a := by rw [e0]; exact hsc.gather hb.1 hg (fun _ _ _ h => h)
      have hle0 : RLe ρ0 ρ0 := RLe.refl _
      have hc0 : HC base w0 ρ0 (J i0) w := by rw [e1]; exact hc.gones 1
      refine wp_loop_ghost (fun n a' w' => ∃ i ρ', μ i = n ∧ HC base w0 ρ' (J i) w' ∧ SC ρ' (mkSlots N (keep .normal) (I i)) a' ∧ RLe ρ0 ρ') (μ i0) ⟨i0, ρ0, rfl, hc0, hst, hle0⟩ ?_
      rintro n a1 w1 ⟨i, ρ1, rfl, hc1, hs1, hl1⟩
      refine ev_ok hK c hL _ _ ρ1 a1 w1 _ (hr i) hc1 hs1 fun e S' ρ2 a2 w2 g1 g2 g3 g4 => ?_
      -- what is kept
      suffices hx : ∃ vs' H' ρ', (match e with
          | .normal => ∃ i', someL vs' = someL (I i') ∧ H' = J i' ∧ μ i' < μ i
          | e => ∃ vs2, someL vs' = someL vs2 ∧ (k e ⟨mkSlots N (keep e) vs2, H'⟩).sat Φ) ∧ HC base w0 ρ' H' w2 ∧ SC ρ' (mkSlots N (keep e) vs') a2 ∧ RLe ρ0 ρ' by
        obtain ⟨vs', H', ρ', g1, hc2, hs2, hl2⟩ := hx
        cases e with
        | normal =>
          obtain ⟨i', f1, f2, f3⟩ := g1
          have f1' := someL_inj f1
          refine ⟨μ i', f3, i', ρ', rfl, by rw [← f2]; exact hc2, by rw [← f1']; exact hs2, hl2⟩
        | exit n =>
          obtain ⟨vs2, f1, f2⟩ := g1
          have f1' := someL_inj f1
          subst f1'
          exact hq (.exit n) _ ρ' a2 w2 f2 hc2 hs2 hl2
        | ret =>
          obtain ⟨vs2, f1, f2⟩ := g1
          have f1' := someL_inj f1
          subst f1'
          exact hq .ret _ ρ' a2 w2 f2 hc2 hs2 hl2
      unfold pkR at g1
      split at g1
      · rename_i vs' hg'
        split at g1
        · rename_i hb'
          simp only [Bool.and_eq_true, Nat.beq_eq, Nat.ble_eq] at hb'
          obtain ⟨⟨b1, b2⟩, b4⟩ := hb'
          rw [takeH_eq] at b4 g1
          have hdom : ∀ i l, ρ0 i = some l → i < S.heap.length := hc.dom
          split at g1
          · rename_i i1 l1 c1 hv1
            rw [nthL_eq] at hv1
            split at g1
            · rename_i e' sh n' c' gg ho
              rw [nthL_eq] at ho
              split at g1
              · rename_i hb2
                rw [Bool.and_eq_true, Nat.ble_eq, setL_eq] at hb2
                rw [setL_eq] at g1
                have hc2 := g2.pick b2 b4 hb2.1 ho
                have hs2 : SC (pick ρ2 m i1) (mkSlots N (keep e) (vs'.set r (.slice (some ⟨m, 0, none⟩) l1 c1))) a2 := gatherR_ok g3 b1 hg' fun j v' hj => by
                  by_cases hjr : r = j
                  · subst hjr
                    rw [List.getElem?_set_self ((List.getElem?_eq_some_iff.1 hv1).1)] at hj
                    cases hj
                    refine ⟨_, hv1, fun u hu => ?_⟩
                    cases hu with
                    | sliceE hl hc => exact .sliceE hl hc
                    | slice _ _ h hlc => exact .slice _ _ (pick_at.trans h) hlc
                  · rw [List.getElem?_set_ne hjr] at hj
                    refine ⟨v', hj, fun u hu => ?_⟩
                    have hsc2 := allB_at hb2.2 j v' (by rw [List.getElem?_set_ne hjr]; exact hj)
                    exact (sc2_Rn hu hsc2).mono cut_pick
                exact ⟨_, _, _, g1, hc2, hs2, RLe_pick (hl1.trans g4) hdom hb.2⟩
              · exact g1.elim
            · exact g1.elim
          · split at g1
            · rename_i hb3
              have hc2 := (g2.take b2 b4).gones 1
              have hs2 : SC (cut ρ2 m) (mkSlots N (keep e) vs') a2 := g3.gather b1 hg' fun v hv u hr => sc2_Rn hr (allB_mem hb3 v hv)
              exact ⟨_, _, _, g1, hc2, hs2, cut_le (hl1.trans g4) hdom hb.2⟩
            · exact g1.elim
        · exact g1.elim
      · exact g1.elim
    · exact hs.elim
  · exact hs.elim
end Go.Proofs.Ytcplbpnpcmgjfab
