/- A symbolic run of Go code: operations that yield a value and leave memory alone. -/
import Derived.Test.YtpkckgdpdnkbeaaZa
namespace Go.Proofs.Ytpkckgdpdnkbeaa
open Go.RowKit
/-- n cells from a place on -/
def readN (g : Nat → Option Value) (off : Nat) : Nat → Option (List Value)
  | 0 => some []
  | n + 1 => match g off with
    | some v => (match readN g (off + 1) n with | some l => some (v :: l) | none => none)
    | none => none
def readH (H : List AObj) (i off : Nat) (sp : Option Nat) (n : Nat) (k : List Value → Out) : Out :=
  match nthL H i with
  | some (.cells _ cs) => (match sp with
    | none => (match readN (nthL cs) off n with | some vs => k vs | none => .bad)
    | some _ => .bad)
  | some (.recs sh N g) => (match sp with
    | some r => .ask (r < N) (match readN (nthL (norm sh (g r))) off n with | some vs => k vs | none => .bad)
    | none => .bad)
  | some (.row _ sh N g) => (match sp with
    | some r => .ask (r < N) (match readN (nthL (norm sh (g r))) off n with | some vs => k vs | none => .bad)
    | none => .bad)
  | _ => .bad
def placeOf (s : Nat) (z : Nat × Nat) : Option Nat → Nat
  | none => s
  | some r => s + r * z.1
theorem tst_sat {Φ : Lf} {b : Bool} {t f : Out} (h : (tst b t f).sat Φ) : (b = true ∧ t.sat Φ) ∨ (b = false ∧ f.sat Φ) := by
  cases b
  · exact .inr ⟨rfl, h⟩
  · exact .inl ⟨rfl, h⟩
theorem readN_at {g : Nat → Option Value} : ∀ (n off : Nat) (vs : List Value), readN g off n = some vs → vs.length = n ∧ ∀ j, j < n → g (off + j) = vs[j]?
  | 0, off, vs, h => by cases h; exact ⟨rfl, fun j hj => by omega⟩
  | n + 1, off, vs, h => by
    unfold readN at h
    cases hg : g off with
    | none => rw [hg] at h; cases h
    | some v =>
      rw [hg] at h
      cases hr : readN g (off + 1) n with
      | none => simp only [hr] at h; cases h
      | some l =>
        simp only [hr] at h
        cases h
        obtain ⟨h1, h2⟩ := readN_at n (off + 1) l hr
        refine ⟨by simp [h1], fun j hj => ?_⟩
        cases j with
        | zero => simpa using hg
        | succ j => have := h2 j (by omega); rw [show off + 1 + j = off + (j + 1) by omega] at this; simpa using this
theorem readN_cut {ρ : Ren} {cs us : List Value} (hr : RL ρ cs us) {off n : Nat} {vs : List Value} (h : readN (nthL cs) off n = some vs) : RL ρ vs ((us.drop off).take n) ∧ vs.length = n ∧ ∀ j, j < n → ∀ u, ((us.drop off).take n)[j]? = some u → us[off + j]? = some u := by
  obtain ⟨hl, hg⟩ := readN_at n off vs h
  have hcs : ∀ j, j < n → ∃ v u, vs[j]? = some v ∧ us[off + j]? = some u ∧ Rn ρ v u := fun j hj => by
    have e := hg j hj
    rw [nthL_eq] at e
    have hv : vs[j]? = some vs[j] := List.getElem?_eq_getElem (by omega)
    rw [hv] at e
    obtain ⟨u, hu, hr⟩ := hr.get e
    exact ⟨_, u, hv, hu, hr⟩
  have hle : off + n ≤ us.length ∨ n = 0 := by
    rcases Nat.eq_zero_or_pos n with hn | hn
    · exact .inr hn
    · obtain ⟨v, u, _, hu, _⟩ := hcs (n - 1) (by omega)
      have := (List.getElem?_eq_some_iff.1 hu).1
      exact .inl (by omega)
  refine ⟨⟨?_, fun j v u hv hu => ?_⟩, hl, fun j hj u hu => ?_⟩
  · rcases hle with hle | hle
    · simp only [List.length_take, List.length_drop]; omega
    · subst hle; simp at hl; simp [hl]
  · have hj : j < n := by rw [← hl]; exact (List.getElem?_eq_some_iff.1 hv).1
    obtain ⟨v', u', a1, a2, a3⟩ := hcs j hj
    rw [List.getElem?_take, if_pos hj, List.getElem?_drop, a2] at hu
    rw [a1] at hv
    cases hv; cases hu
    exact a3
  · rw [List.getElem?_take, if_pos hj, List.getElem?_drop] at hu
    exact hu
theorem take_lt {us : List Value} {off n j : Nat} {u : Value} (h : ((us.drop off).take n)[j]? = some u) : j < n := by
  rw [List.getElem?_take] at h
  split at h
  · assumption
  · cases h
theorem flat_succ (sh : List LK) (n : Nat) (g : Nat → List Value) : flat sh (n + 1) g = flat sh n g ++ norm sh (g n) := by
  unfold flat
  rw [List.range_succ, List.flatMap_append]
  simp
theorem flat_len (sh : List LK) (g : Nat → List Value) : ∀ n, (flat sh n g).length = n * sh.length
  | 0 => by simp [flat]
  | n + 1 => by rw [flat_succ, List.length_append, flat_len sh g n, norm_len, Nat.add_mul]; omega
theorem flat_at (sh : List LK) (g : Nat → List Value) {k q : Nat} {u : Value} (hu : (norm sh (g k))[q]? = some u) : ∀ n, k < n → (flat sh n g)[k * sh.length + q]? = some u
  | 0, h => by omega
  | n + 1, h => by
    have hq : q < sh.length := by have := (List.getElem?_eq_some_iff.1 hu).1; rw [norm_len] at this; exact this
    rw [flat_succ, List.getElem?_append, flat_len]
    by_cases e : k = n
    · subst e
      rw [if_neg (by omega), Nat.add_sub_cancel_left]
      exact hu
    · have : k * sh.length + q < n * sh.length := by
        have h1 : (k + 1) * sh.length ≤ n * sh.length := Nat.mul_le_mul_right _ (by omega)
        rw [Nat.add_mul] at h1
        omega
      rw [if_pos this]
      exact flat_at sh g hu n (by omega)
theorem addr_add (b o n : Nat) : (⟨b, o, none⟩ : Addr).add n = ⟨b, o + n, none⟩ := by
  unfold Addr.add
  split
  · rename_i h; subst h; rfl
  · rfl
theorem row_lies {w : World} {base e b n k q : Nat} {sh : List LK} {g : Nat → List Value} {z : Nat} (h : w.ownsRow base e sh.length (rowV (some (b, 0, z, q)) n) n (flat sh n g)) (hk : k < n) : Lies w b (k * sh.length) (norm sh (g k)) := fun p u hu => by
  have := h.cells (g := b) rfl (k * sh.length + p) u (flat_at sh g hu n hk)
  rw [addr_add, Nat.zero_add] at this
  exact this
theorem readH_ok {base : Nat} {w0 w : World} {ρ : Ren} {H : List AObj} {Φ : Lf} {i off n b s : Nat} {z : Nat × Nat} {sp : Option Nat} {k : List Value → Out}
    (h : (readH H i off sp n k).sat Φ) (hc : HC base w0 ρ H w) (hi : ρ i = some (some (b, s, z))) :
    ∃ vs us, (k vs).sat Φ ∧ RL ρ vs us ∧ vs.length = n ∧ ∀ w', Below w.heap.size w w' → Lies w' b (placeOf s z sp + off) us := by
  have hlt := hc.lt i b s z hi
  have one : ∀ (r : Nat) (sh : List LK) (cs : List Value), Lies w b (placeOf s z (some r)) (norm sh cs) → (match readN (nthL (norm sh cs)) off n with | some vs => k vs | none => .bad : Out).sat Φ → ∃ vs us, (k vs).sat Φ ∧ RL ρ vs us ∧ vs.length = n ∧ ∀ w', Below w.heap.size w w' → Lies w' b (placeOf s z (some r) + off) us := fun r sh cs g2 h => by
    split at h
    · rename_i vs hrd
      obtain ⟨e1, e2, e3⟩ := readN_cut (norm_RL.2 rfl : RL ρ _ _) hrd
      refine ⟨vs, _, h, e1, e2, fun w' hw' j u hu => ?_⟩
      have := (g2.below hw' hlt) (off + j) u (e3 j (take_lt hu) u hu)
      rw [← Nat.add_assoc] at this
      exact this
    · exact h.elim
  unfold readH at h
  split at h
  · rename_i T cs ho
    rw [nthL_eq] at ho
    obtain ⟨b', us, h1, h2, h3, h4⟩ := hc.obj i _ ho
    rw [hi] at h1
    cases h1
    split at h
    · split at h
      · rename_i vs hr
        obtain ⟨e1, e2, e3⟩ := readN_cut h3 hr
        refine ⟨vs, _, h, e1, e2, fun w' hw' j u hu => ?_⟩
        have e := (hw'.block b hlt).trans h4
        have e5 := e3 j (take_lt hu) u hu
        simp [placeOf, World.cell?, e, e5]
      · exact h.elim
    · exact h.elim
  · rename_i sh N g ho
    rw [nthL_eq] at ho
    obtain ⟨l, h1, h0, h2⟩ := hc.obj i _ ho
    rw [hi] at h1
    cases h1
    have hz := h0 b s z rfl
    split at h
    · rename_i r
      refine one r sh _ ?_ h.2
      rcases h2 with h2 | ⟨b', s', q', e, h2⟩
      · have := h.1; omega
      · cases e
        exact h2 r h.1
    · exact h.elim
  · rename_i e sh N g ho
    rw [nthL_eq] at ho
    obtain ⟨l, h1, h0, h2⟩ := hc.obj i _ ho
    rw [hi] at h1
    cases h1
    obtain ⟨rfl, hz⟩ := h0 b s z rfl
    split at h
    · rename_i r
      refine one r sh _ ?_ h.2
      obtain ⟨z1, z2⟩ := z
      simp only at hz
      subst hz
      have := row_lies h2 h.1
      simpa [placeOf] using this
    · exact h.elim
  · exact h.elim
theorem run_loadCells (P : Program) (w : World) (b o : Nat) : ∀ (us : List Value) (i : Nat) (acc : List Value), Lies w b (o + i) us →
    (loadCellsFrom ⟨b, o, none⟩ i us.length ⟨acc⟩).run P w = .ok ⟨acc ++ us⟩ w
  | [], i, acc, _ => by simp [loadCellsFrom]
  | u :: us, i, acc, h => by
    have h0 := h 0 u (by simp)
    have ht : Lies w b (o + (i + 1)) us := fun j x hx => by have := h (j + 1) x (by simpa using hx); rw [show o + (i + 1) + j = o + i + (j + 1) by omega]; exact this
    have ih := run_loadCells P w b o us (i + 1) (acc ++ [u]) ht
    simp only [Nat.add_zero] at h0
    simp only [List.length_cons, loadCellsFrom, Sem.run_bind, addr_add]
    have hl : (load ⟨b, o + i, none⟩).run P w = .ok u w := by simp [load, Sem.run, h0]
    rw [hl]
    simp only [Result.andThen_ok]
    have : (⟨acc⟩ : Array Value).push u = ⟨acc ++ [u]⟩ := by simp
    rw [this, ih]
    simp
def aggD : TypeDesc → Bool
  | .struct _ => true
  | .array _ _ => true
  | _ => false
/-- is a type's value many cells, and how many -/
def aggSize (P : Program) (t : TypeId) : Option (Bool × Nat) :=
  match P.underlying t with
  | some d => (match aggD d with
    | true => (match P.info? t with | some i => some (true, i.size) | none => none)
    | false => some (false, 1))
  | none => none
theorem run_isAgg {P : Program} {t : TypeId} {d : TypeDesc} (h : P.underlying t = some d) (w : World) : (isAgg t).run P w = .ok (aggD d) w := by
  simp only [isAgg, underlying, program, Sem.run_bind, Sem.run, Result.andThen_ok, h]
  cases d <;> rfl
theorem run_sizeOf {P : Program} {t : TypeId} {i : TypeInfo} (h : P.info? t = some i) (w : World) : (sizeOf t).run P w = .ok i.size w := by
  simp [sizeOf, typeInfo, program, Sem.run, h]
theorem run_underlying {P : Program} {t : TypeId} {d : TypeDesc} (h : P.underlying t = some d) (w : World) : (underlying t).run P w = .ok d w := by
  simp [underlying, program, Sem.run, h]
theorem run_loadVar {P : Program} {t : TypeId} {ag : Bool} {n : Nat} (hs : aggSize P t = some (ag, n)) {w : World} {b o : Nat} {us : List Value} (hl : us.length = n) (h : Lies w b o us) :
    (loadVar t ⟨b, o, none⟩).run P w = .ok (if ag then .agg ⟨us⟩ else us[0]?.getD undef) w := by
  have hg : (loadCells ⟨b, o, none⟩ us.length).run P w = .ok ⟨us⟩ w := by
    have := run_loadCells P w b o us 0 [] (by simpa using h)
    simpa [loadCells] using this
  unfold aggSize at hs
  cases hu : P.underlying t with
  | none => rw [hu] at hs; cases hs
  | some d =>
    rw [hu] at hs
    unfold loadVar
    rw [Sem.run_bind, run_isAgg hu, Result.andThen_ok]
    cases hd : aggD d with
    | true =>
      simp only [hd] at hs
      cases hi : P.info? t with
      | none => rw [hi] at hs; cases hs
      | some i =>
        rw [hi] at hs
        cases hs
        simp [run_sizeOf hi, ← hl, hg]
    | false =>
      simp only [hd] at hs
      cases hs
      match us, hl with
      | [u], _ =>
        have h0 := h 0 u (by simp)
        simp only [Nat.add_zero] at h0
        simp [load, Sem.run, h0]
end Go.Proofs.Ytpkckgdpdnkbeaa
