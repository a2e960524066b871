/- A fence that many come to: the loop of the law. -/
import Derived.Test.YtehmikiejfbmeaaLz8
namespace Go.Proofs.Ytehmikiejfbmeaa
open Go.RowKit
abbrev tk (l : List Value) : Int := intV (hdV l)
/-- what a fence has seen behind so many -/
def fS (g : Nat → List Value) (s : Int) : Nat → Int
  | 0 => s
  | k + 1 => bif x1_fp (fS g s k) (tk (g k)) == 0 then x0_fp (fS g s k) (tk (g k)) else fS g s k
def keepFR : AE → List Nat
  | .normal => [1, 2, 3, 7, 8]
  | .exit _ => [1, 2, 3]
  | .ret => [6]
def gFRL : List Value → List AObj → (AE → List Value → List AObj → Out) → Out
  | [.slice (some ⟨0, 0, some 0⟩) l c, .int .i64 i, .pointer (some ⟨1, 0, none⟩), .int .i64 top, .int .i64 z], [.recs sh m g, .cells t [.int .i64 s]], k => (match shEq sh feK with
    | true => .ask (l = m ∧ c = m ∧ top = s ∧ z = 0 ∧ t = 25 ∧ m ≤ 140737488355328) (k (.exit 0) [.slice (some ⟨0, 0, some 0⟩) m m, .int .i64 i, .pointer (some ⟨1, 0, none⟩)] [.recs sh m g, .cells 25 [.int .i64 (fS g s m)]])
    | false => .bad)
  | _, _, _ => .bad
def lFR : Nat → Option LCon := oneL 5 (lspec 96 keepFR 2 gFRL)
theorem run_frB (s i top : Int) (m k : Nat) (g : Nat → List Value) : ev K8 noL (bodyOf Try.f7 0) ⟨mkSlots 96 [1, 2, 3, 7, 8] [.slice (some ⟨0, 0, some 0⟩) m m, .int .i64 i, .pointer (some ⟨1, 0, none⟩), .int .i64 top, .int .i64 k], [.recs feK m g, .cells 25 [.int .i64 s]]⟩ (pkG 96 keepFR 2) = tst (decide ((↑k : Int) < (↑m : Int))) (Out.ask ((0 : Int) ≤ (↑k : Int) ∧ (↑k : Int) < (↑m : Int)) (Out.ask (k < m) (tst (x1_fp s (intV (hdV (g k))) == (0 : Int)) (Out.ask ((0 : Int) ≤ (↑k : Int) ∧ (↑k : Int) < (↑m : Int)) (Out.ask (k < m) (tst (decide (intV (hdV (g (Int.toNat (↑k : Int) + (0 : Nat)))) < top)) (Out.done AE.ret { slots := [some (Value.bool false)], heap := [AObj.recs feK m g, AObj.cells (25 : TypeId) [Value.int IntKind.i64 s]] }) (Out.ask ((0 : Int) ≤ (↑k : Int) ∧ (↑k : Int) < (↑m : Int)) (Out.ask (k < m) (tst (x0_fp s (intV (hdV (g k))) != intV (hdV (g k))) (Out.done AE.ret { slots := [some (Value.bool false)], heap := [AObj.recs feK m g, AObj.cells (25 : TypeId) [Value.int IntKind.i64 s]] }) (Out.ask ((0 : Int) ≤ (↑k : Int) ∧ (↑k : Int) < (↑m : Int)) (Out.ask (k < m) (Out.done AE.normal { slots := [some (Value.slice (some { block := (0 : Nat), off := (0 : Nat), spot := some (0 : Nat) }) m m), some (Value.int IntKind.i64 i), some (Value.pointer (some { block := (1 : Nat), off := (0 : Nat) })), some (Value.int IntKind.i64 (intV (hdV (g k)))), some (Value.int IntKind.i64 (IntKind.wrap IntKind.i64 ((↑k : Int) + (1 : Int))))], heap := [AObj.recs feK m g, AObj.cells (25 : TypeId) [Value.int IntKind.i64 (x0_fp s (intV (hdV (g k))))]] }))))))))) (tst (x1_fp s (intV (hdV (g k))) == (4 : Int)) (Out.ask ((0 : Int) ≤ (↑k : Int) ∧ (↑k : Int) < (↑m : Int)) (Out.ask (k < m) (tst (decide (intV (hdV (g (Int.toNat (↑k : Int) + (0 : Nat)))) ≥ top)) (Out.done AE.ret { slots := [some (Value.bool false)], heap := [AObj.recs feK m g, AObj.cells (25 : TypeId) [Value.int IntKind.i64 s]] }) (Out.done AE.normal { slots := [some (Value.slice (some { block := (0 : Nat), off := (0 : Nat), spot := some (0 : Nat) }) m m), some (Value.int IntKind.i64 i), some (Value.pointer (some { block := (1 : Nat), off := (0 : Nat) })), some (Value.int IntKind.i64 top), some (Value.int IntKind.i64 (IntKind.wrap IntKind.i64 ((↑k : Int) + (1 : Int))))], heap := [AObj.recs feK m g, AObj.cells (25 : TypeId) [Value.int IntKind.i64 s]] })))) (Out.done AE.normal { slots := [some (Value.slice (some { block := (0 : Nat), off := (0 : Nat), spot := some (0 : Nat) }) m m), some (Value.int IntKind.i64 i), some (Value.pointer (some { block := (1 : Nat), off := (0 : Nat) })), some (Value.int IntKind.i64 top), some (Value.int IntKind.i64 (IntKind.wrap IntKind.i64 ((↑k : Int) + (1 : Int))))], heap := [AObj.recs feK m g, AObj.cells (25 : TypeId) [Value.int IntKind.i64 s]] }))))) (Out.done (AE.exit (0 : Nat)) { slots := [some (Value.slice (some { block := (0 : Nat), off := (0 : Nat), spot := some (0 : Nat) }) m m), some (Value.int IntKind.i64 i), some (Value.pointer (some { block := (1 : Nat), off := (0 : Nat) }))], heap := [AObj.recs feK m g, AObj.cells (25 : TypeId) [Value.int IntKind.i64 s]] }) := by kernel_rfl
theorem fS_go {g : Nat → List Value} {s : Int} {j : Nat} (h : (x1_fp (fS g s j) (tk (g j)) == 0) = true) : fS g s j ≤ tk (g j) ∧ x0_fp (fS g s j) (tk (g j)) = tk (g j) ∧ fS g s (j + 1) = tk (g j) := by
  have p := fp_spec (fS g s j) (tk (g j))
  have e : fS g s (j + 1) = x0_fp (fS g s j) (tk (g j)) := by
    show (bif x1_fp (fS g s j) (tk (g j)) == 0 then _ else _) = _
    rw [h]
    rfl
  have h := beq_t h
  rw [e]
  unfold PassSpec at p
  rcases p with p | p | p
  · omega
  · omega
  · exact ⟨p.2.2.2.1, p.2.2.2.2, p.2.2.2.2⟩
theorem fS_stay {g : Nat → List Value} {s : Int} {j : Nat} (h : (x1_fp (fS g s j) (tk (g j)) == 0) = false) : fS g s (j + 1) = fS g s j ∧ (x1_fp (fS g s j) (tk (g j)) = 4 → tk (g j) < fS g s j) := by
  have p := fp_spec (fS g s j) (tk (g j))
  have e : fS g s (j + 1) = fS g s j := by
    show (bif x1_fp (fS g s j) (tk (g j)) == 0 then _ else _) = _
    rw [h]
    rfl
  refine ⟨e, fun h4 => ?_⟩
  unfold PassSpec at p
  rcases p with p | p | p <;> omega
theorem wrap_at {k n : Nat} (h : k < n) (hn : n ≤ 140737488355328) : IntKind.wrap IntKind.i64 ((k : Int) + 1) = ((k + 1 : Nat) : Int) := by
  have h2 : ((k + 1 : Nat) : Int) = (k : Int) + 1 := by omega
  rw [h2]
  rw [IntKind.wrap_i64]
  omega
theorem loop_fr : LOk K8.P (bodyOf Try.f7 0) (lspec 96 keepFR 2 gFRL) := lspec_ok K8_ok (L := noL) (fun c' _ F h => by cases h) fun Φ vs H k hm0 h => by
  unfold gFRL at h
  split at h
  · rename_i l m i s z sh m0 g t s0
    split at h
    · rename_i hsh
      have := shEq_eq hsh
      subst this
      obtain ⟨⟨rfl, rfl, rfl, rfl, rfl, hb⟩, h⟩ := h
      refine ⟨{j : Nat // j ≤ m}, fun j => [.slice (some ⟨0, 0, some 0⟩) m m, .int .i64 i, .pointer (some ⟨1, 0, none⟩), .int .i64 (fS g s j.1), .int .i64 j.1], fun j => [.recs feK m g, .cells 25 [.int .i64 (fS g s j.1)]], fun j => m - j.1, ⟨0, by omega⟩, rfl, rfl, ?_⟩
      rintro ⟨j, hj⟩
      show (ev K8 noL _ ⟨mkSlots 96 [1, 2, 3, 7, 8] [.slice (some ⟨0, 0, some 0⟩) m m, .int .i64 i, .pointer (some ⟨1, 0, none⟩), .int .i64 (fS g s j), .int .i64 j], [.recs feK m g, .cells 25 [.int .i64 (fS g s j)]]⟩ (pkG 96 keepFR 2)).sat _
      rw [run_frB]
      refine sat_tst (fun ht => ?_) (fun ht => ?_)
      · have hlt : j < m := by have := of_decide_eq_true ht; omega
        have fin : ∀ (p q : Int) (r : Int), p = fS g s (j + 1) → q = fS g s (j + 1) → r = ((j + 1 : Nat) : Int) → ∃ i' : {j : Nat // j ≤ m}, [some (Value.slice (some ⟨0, 0, some 0⟩) m m), some (Value.int .i64 i), some (Value.pointer (some ⟨1, 0, none⟩)), some (Value.int .i64 p), some (Value.int .i64 r)] = someL [.slice (some ⟨0, 0, some 0⟩) m m, .int .i64 i, .pointer (some ⟨1, 0, none⟩), .int .i64 (fS g s i'.1), .int .i64 i'.1] ∧ [AObj.recs feK m g, AObj.cells 25 [.int .i64 q]] = [.recs feK m g, .cells 25 [.int .i64 (fS g s i'.1)]] ∧ m - i'.1 < m - j := fun p q r hp hq hr => by
          subst hp
          subst hq
          subst hr
          exact ⟨⟨j + 1, by omega⟩, rfl, rfl, by show m - (j + 1) < m - j; omega⟩
        have w := wrap_at hlt hb
        have i1 : (0 : Int) ≤ (j : Int) ∧ (j : Int) < (m : Int) := ⟨by omega, by omega⟩
        refine sat_ask i1 (sat_ask hlt (sat_tst (fun h1 => ?_) fun h1 => ?_))
        · obtain ⟨q1, q2, q3⟩ := fS_go h1
          refine sat_ask i1 (sat_ask hlt (sat_tst (fun h2 => ?_) fun _ => sat_ask i1 (sat_ask hlt (sat_tst (fun h2 => ?_) fun _ => sat_ask i1 (sat_ask hlt ?_)))))
          · have h2 : tk (g j) < fS g s j := of_decide_eq_true h2
            exfalso
            omega
          · exact absurd q2 (bne_t h2)
          · exact fin _ _ _ q3.symm (q2.trans q3.symm) w
        · obtain ⟨q1, q2⟩ := fS_stay h1
          refine sat_tst (fun h2 => sat_ask i1 (sat_ask hlt (sat_tst (fun h3 => ?_) fun _ => ?_))) fun _ => ?_
          · have h3 : tk (g j) ≥ fS g s j := of_decide_eq_true h3
            have := q2 (beq_t h2)
            exfalso
            omega
          · exact fin _ _ _ q1.symm q1.symm w
          · exact fin _ _ _ q1.symm q1.symm w
      · have hge : j = m := by have := of_decide_eq_false ht; omega
        subst hge
        exact ⟨_, rfl, h⟩
    · exact h.elim
  · exact h.elim
theorem lFR_ok : ∀ F, lFR (key (bodyOf Try.f7 0)) = some F → LOk K8.P (bodyOf Try.f7 0) F := fun F h => by
  have hk : lFR (key (bodyOf Try.f7 0)) = some (lspec 96 keepFR 2 gFRL) := by kernel_rfl
  rw [hk] at h
  cases h
  exact loop_fr
theorem fS_bad {g : Nat → List Value} {s : Int} (hs : ¬ Tm s) : ∀ n, fS g s n = s
  | 0 => rfl
  | n + 1 => by
    have ih := fS_bad (g := g) hs n
    have p := fp_spec (fS g s n) (tk (g n))
    have e : x1_fp (fS g s n) (tk (g n)) = 3 := by
      rw [ih] at p ⊢
      unfold PassSpec at p
      rcases p with p | p | p
      · exact p.1
      · exact absurd p.2.2.1 hs
      · exact absurd p.2.1 hs
    have := (fS_stay (g := g) (s := s) (j := n) (by rw [e]; rfl)).1
    omega
theorem fS_top {g : Nat → List Value} {s : Int} (hs : Tm s) : ∀ n, Tm (fS g s n) ∧ ∀ i, i < n → tk (g i) ≤ fS g s n ∨ 1000000 < tk (g i)
  | 0 => ⟨hs, fun i hi => by omega⟩
  | n + 1 => by
    obtain ⟨h1, h2⟩ := fS_top (g := g) hs n
    have p := fp_spec (fS g s n) (tk (g n))
    cases h : (x1_fp (fS g s n) (tk (g n)) == 0) with
    | true =>
      obtain ⟨q1, q2, q3⟩ := fS_go h
      have h := beq_t h
      have hk : Tm (tk (g n)) := by
        unfold PassSpec at p
        rcases p with p | p | p
        · omega
        · omega
        · exact p.2.2.1
      refine ⟨by rw [q3]; exact hk, fun i hi => ?_⟩
      by_cases e : i = n
      · subst e; omega
      · have := h2 i (by omega)
        omega
    | false =>
      obtain ⟨q1, -⟩ := fS_stay h
      have h := beq_f h
      refine ⟨by rw [q1]; exact h1, fun i hi => ?_⟩
      by_cases e : i = n
      · subst e
        unfold PassSpec at p
        rcases p with p | p | p
        · by_cases ht : Tm (tk (g i))
          · exact absurd ⟨h1, ht⟩ p.2.2
          · unfold Tm at ht h1; omega
        · omega
        · omega
      · have := h2 i (by omega)
        omega
end Go.Proofs.Ytehmikiejfbmeaa
