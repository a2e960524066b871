/- What comes in is in its range. -/
import Derived.Test.YtpkckgdpdnkbeaaZy
namespace Go.Proofs.Ytpkckgdpdnkbeaa
open Go.ChangeShapes Go.WideShapes Go.ChangeAt Go.RowKit Go.Shelf
/-- a value in its kind's range -/
def LK.ok : LK → Value → Prop
  | .kInt k, v => (Lit.int k (intV v)).wf = true
  | _, _ => True
def rngs : List LK → List Value → Prop
  | [], _ => True
  | k :: sh, l => LK.ok k (hdV l) ∧ rngs sh (tlV l)
theorem rngs_app : ∀ {a b : List LK} {u v : List Value}, u.length = a.length → rngs a u → rngs b v → rngs (a ++ b) (u ++ v)
  | [], b, u, v, h, _, h2 => by have : u = [] := List.length_eq_zero_iff.1 h; subst this; exact h2
  | k :: a, b, [], v, h, _, _ => by simp at h
  | k :: a, b, x :: u, v, h, h1, h2 => ⟨h1.1, rngs_app (a := a) (u := u) (by simpa using h) h1.2 h2⟩
section
variable {P : Program} {H : Type} {enc : TypeId × Value → H} {W : World}
theorem kinds_rng : ∀ (n : Nat) {t : TypeId} {sh : List LK}, kindsOf P n t = some sh → ∀ {fuel : Nat} {cs : List Value} {x : DataW H × List MemPlace}, DataW.trod enc P W 0 (fun _ => true) true fuel t cs = some x → rngs sh cs
  | 0, t, sh, h, _, _, _, _ => by cases h
  | n + 1, t, sh, h, fuel, cs, x, hx => by
    unfold kindsOf at h
    split at h
    · rename_i k hu
      cases h
      obtain ⟨m, rfl, _, hw⟩ := DataW.trod_int hu hx
      exact ⟨hw, trivial⟩
    · rename_i hu
      cases h
      exact ⟨trivial, trivial⟩
    · rename_i hu
      cases h
      exact ⟨trivial, trivial⟩
    · rename_i fs hu
      split at h
      · rename_i l hl
        cases hb : Nat.beq (P.cellsOf t) l.length with
        | false => rw [hb] at h; cases h
        | true =>
          rw [hb] at h
          cases h
          rw [Nat.beq_eq] at hb
          obtain ⟨xs, m, _, _, hlen, hxl, hf⟩ := DataW.trod_struct hu hx
          have go : ∀ (fs' : List Field) (off : Nat) (l : List LK), kindsF P (kindsOf P n) fs' off = some l → (∀ f ∈ fs', ∃ y, DataW.trod enc P W 0 (fun _ => true) true m f.type ((cs.drop f.offset).take (P.cellsOf f.type)) = some y) → off + l.length ≤ cs.length → rngs l ((cs.drop off).take l.length) := fun fs' => by
            induction fs' with
            | nil => intro off l hk _ _; cases hk; trivial
            | cons f fs' ih =>
              intro off l hk hy hle
              unfold kindsF at hk
              split at hk
              · rename_i ks hks
                cases hb2 : (Nat.beq f.offset off && Nat.beq (P.cellsOf f.type) ks.length) with
                | false => rw [hb2] at hk; cases hk
                | true =>
                  rw [hb2] at hk
                  rw [Bool.and_eq_true, Nat.beq_eq, Nat.beq_eq] at hb2
                  simp only [cond_true] at hk
                  split at hk
                  · rename_i l' hl'
                    cases hk
                    obtain ⟨y, hy0⟩ := hy f (List.mem_cons_self ..)
                    have h1 := kinds_rng n hks hy0
                    rw [hb2.1, hb2.2] at h1
                    rw [List.length_append] at hle
                    have h2 := ih (off + ks.length) l' hl' (fun g hg => hy g (List.mem_cons_of_mem _ hg)) (by omega)
                    have e : (cs.drop off).take (ks ++ l').length = (cs.drop off).take ks.length ++ (cs.drop (off + ks.length)).take l'.length := by
                      rw [List.length_append, List.take_add, List.drop_drop]
                    rw [e]
                    exact rngs_app (by rw [List.length_take, List.length_drop]; omega) h1 h2
                  · cases hk
              · cases hk
          have := go fs 0 _ hl (fun f hf' => by
            obtain ⟨i, hi⟩ := List.mem_iff_getElem?.1 hf'
            have := hf i f (by simpa using hi)
            have hil : i < xs.length := by rw [hxl]; have := (List.getElem?_eq_some_iff.1 hi).1; simpa using this
            exact ⟨xs[i], by rw [this]; exact List.getElem?_eq_getElem hil⟩) (by omega)
          rw [List.drop_zero, List.take_of_length_le (by omega)] at this
          exact this
      · cases h
    · cases h
/-- A FLAT STRUCT that came in. -/
theorem open_flatR {t : TypeId} {fs : Array Field} {sh : List LK} {n b0 : Nat} {v : Value} {d : DataW H} {ps : List MemPlace} (hu : P.underlying t = some (.struct fs)) (hk : kindsOf P n t = some sh) (hval : Value.okWide P W .any b0 t v) (hd : DataW.Trod enc P W 0 (fun _ => true) true t v d ps) : ∃ cs, v = .agg ⟨norm sh cs⟩ ∧ rngs sh cs := by
  obtain ⟨cs, rfl, _⟩ := okWide_struct hu hval
  obtain ⟨fuel, hf⟩ := hd
  have h1 := kinds_ok n hk hf
  have h2 := kinds_rng n hk hf
  refine ⟨cs.toList, ?_, h2⟩
  have e0 : (Value.agg cs).cells.toList = cs.toList := rfl
  rw [e0] at h1
  rw [h1]
/-- A LIST OF FLAT THINGS that came in. -/
theorem arg_rowsR {t e : TypeId} {sh : List LK} {n fuel : Nat} {a : Option Addr} {l c : Nat} {d : DataW H} {p : List MemPlace} {ts : List TypeId} {ds : List (DataW H)} {j : Nat} (hu : P.underlying t = some (.slice e)) (hk : kindsOf P n e = some sh) (hce : P.cellsOf e = sh.length) (hpos : 0 < sh.length) (hby : 0 < P.bytesOf e)
    (hf : DataW.trod enc P W 0 (fun _ => true) true fuel t (Value.slice a l c).cells.toList = some (d, p)) (hsz : (DataW.weightsEach P ts ds).all (· ≤ reachBytes) = true) (ht : ts[j]? = some t) (hd : ds[j]? = some d) : ∃ g, ArgOk W (.rows sh l g) (.slice a l c) ∧ ∀ i, i < l → rngs sh (g i) := by
  rcases Deep.open_slice hu hf with ⟨hcs, _⟩ | ⟨x, len, cap, m, n', D, Pl, hcs, _, hl, hm, hmm, hx, hel⟩
  · simp [Value.cells] at hcs
    obtain ⟨rfl, rfl, rfl⟩ := hcs
    exact ⟨fun _ => [], ⟨none, ⟨⟨fun b s z e => (by cases e), .inl rfl⟩, by omega⟩, fun ρ' i _ => .sliceE rfl rfl⟩, fun i hi => by omega⟩
  · simp [Value.cells] at hcs
    obtain ⟨rfl, rfl, rfl⟩ := hcs
    obtain ⟨rfl, rfl⟩ := Prod.mk.inj hx
    have hb := sized_slice hsz (j := j) (t := t) (e := e) ht hd hu
    simp only [List.length_map, List.length_range, reachBytes] at hb
    simp only [if_true] at hmm
    subst hmm
    have hle : l ≤ 140737488355328 := by
      have h1 : (l + (m - l)) * 1 ≤ (l + (m - l)) * P.bytesOf e := Nat.mul_le_mul_left _ hby
      omega
    have each : ∀ i, i < m → ∃ cs : List Value, rngs sh cs ∧ norm sh cs = cs ∧ cs.length = sh.length ∧ ∀ q u, cs[q]? = some u → W.cell? ((x.add (i * sh.length)).add q) = some u := by
      intro i hi
      obtain ⟨cs, h1, h2⟩ := hel i hi
      rw [hce] at h1
      obtain ⟨_, hlen, h3⟩ := World.cells?_some h1
      refine ⟨cs, kinds_rng n hk h2, kinds_ok n hk h2, hlen, fun q u hq => ?_⟩
      have hql := (List.getElem?_eq_some_iff.1 hq).1
      have := h3 q (by omega)
      rw [this]
      exact hq
    obtain ⟨f, hfl0⟩ := Deep.choose_lt (α := List Value) (p := fun i cs => rngs sh cs ∧ norm sh cs = cs ∧ cs.length = sh.length ∧ ∀ q u, cs[q]? = some u → W.cell? ((x.add (i * sh.length)).add q) = some u) each
    have hfl : ∀ i, i < m → _ := fun i hi => (hfl0 i hi).2
    refine ⟨f, ?_, fun i hi => (hfl0 i (by omega)).1⟩
    by_cases h0 : m = 0
    · have e1 : l = 0 := by omega
      subst e1
      subst h0
      exact ⟨none, ⟨⟨fun b s z e => (by cases e), .inl rfl⟩, by omega⟩, fun ρ' i _ => .sliceE rfl rfl⟩
    · obtain ⟨b, off, sp⟩ := x
      cases sp with
      | some s =>
        obtain ⟨_, hlen, h6⟩ := hfl 0 (by omega)
        have hz : (f 0)[0]? = some ((f 0)[0]'(by omega)) := List.getElem?_eq_getElem _
        have := h6 0 _ hz
        simp [World.cell?, Addr.add] at this
        split at this <;> simp at this
      | none =>
        have hc : ∀ k, k < m → Lies W b (off + k * sh.length) (norm sh (f k)) := fun k hk' q u hq => by
          obtain ⟨e1, _, e2⟩ := hfl k hk'
          rw [e1] at hq
          have := e2 q u hq
          rw [Addr.add_mid, Addr.add_mid] at this
          exact this
        have hlt : b < W.heap.size := by
          have hz : (norm sh (f 0))[0]? = some ((norm sh (f 0))[0]'(by rw [norm_len]; exact hpos)) := List.getElem?_eq_getElem _
          have := hc 0 (by omega) 0 _ hz
          unfold World.cell? at this
          by_cases hp : b < W.heap.size
          · exact hp
          · rw [Array.getElem?_eq_none (by simpa using hp)] at this
            cases this
        refine ⟨some (b, off, sh.length, m), ⟨⟨fun b' s' z' e => (by cases e; exact ⟨rfl, hlt⟩), .inr ⟨b, off, m, rfl, fun k hk' => hc k (by omega)⟩⟩, hle⟩, fun ρ' i e => ?_⟩
        have := Rn.sliceR (ρ := ρ') (i := i) (o := 0) (r := 0) l l m e (Nat.le_refl _) hl (by simp)
        simpa using this
/-- A STRUCT OF A LIST AND A NUMBER that came in. -/
theorem open_rowInt {t e : TypeId} {f0 f1 : Field} {sh : List LK} {k : IntKind} {n b0 : Nat} {v : Value} {d : DataW H} {p : List MemPlace} {ts : List TypeId} {ds : List (DataW H)} {j : Nat} (hu : P.underlying t = some (.struct #[f0, f1])) (hc : P.cellsOf t = 2) (o0 : f0.offset = 0) (o1 : f1.offset = 1) (c0 : P.cellsOf f0.type = 1) (c1 : P.cellsOf f1.type = 1)
    (u0 : P.underlying f0.type = some (.slice e)) (u1 : P.underlying f1.type = some (.int k)) (hk : kindsOf P n e = some sh) (hce : P.cellsOf e = sh.length) (hpos : 0 < sh.length) (hby : 0 < P.bytesOf e)
    (hval : Value.okWide P W .any b0 t v) (hd : DataW.Trod enc P W 0 (fun _ => true) true t v d p) (hsz : (DataW.weightsEach P ts ds).all (· ≤ reachBytes) = true) (ht : ts[j]? = some t) (hdj : ds[j]? = some d) :
    ∃ a l c m g, v = .agg ⟨[.slice a l c, .int k m]⟩ ∧ ArgOk W (.rows sh l g) (.slice a l c) ∧ (∀ i, i < l → rngs sh (g i)) ∧ (Lit.int k m).wf = true := by
  obtain ⟨cs, rfl, _⟩ := okWide_struct hu hval
  obtain ⟨fuel, hf⟩ := hd
  have e0 : (Value.agg cs).cells.toList = cs.toList := rfl
  rw [e0] at hf
  obtain ⟨xs, m, rfl, hx, hlen, hxl, hfl⟩ := DataW.trod_struct hu hf
  rw [hc] at hlen
  obtain ⟨a0, a1, hcs⟩ : ∃ a0 a1, cs.toList = [a0, a1] := by
    match h : cs.toList, hlen with
    | [a0, a1], _ => exact ⟨a0, a1, rfl⟩
  obtain ⟨x0, x1, hxs⟩ : ∃ x0 x1, xs = [x0, x1] := by
    have hxl : xs.length = 2 := hxl
    match xs, hxl with
    | [x0, x1], _ => exact ⟨x0, x1, rfl⟩
  have g0 := hfl 0 f0 rfl
  have g1 := hfl 1 f1 rfl
  rw [o0, c0, hcs, hxs] at g0
  rw [o1, c1, hcs, hxs] at g1
  have g0 : DataW.trod enc P W 0 (fun _ => true) true m f0.type [a0] = some x0 := g0
  have g1 : DataW.trod enc P W 0 (fun _ => true) true m f1.type [a1] = some x1 := g1
  obtain ⟨y, hy, _, hw⟩ := DataW.trod_int u1 g1
  obtain rfl : a1 = .int k y := by simpa using hy
  obtain ⟨d0, p0⟩ := x0
  obtain ⟨d1, p1⟩ := x1
  have hd' : d = .agg [d0, d1] := by
    have := (Prod.mk.inj hx).1
    rw [this, hxs]
    rfl
  have hsz' : (DataW.weightsEach P [f0.type, f1.type] [d0, d1]).all (· ≤ reachBytes) = true := List.all_eq_true.2 fun q hq => List.all_eq_true.1 hsz q (DataW.weights_mem_each ht hdj q (by rw [hd']; simp only [DataW.weights, hu]; exact hq))
  have hsl : ∃ a l c, a0 = .slice a l c := by
    rcases Deep.open_slice u0 g0 with ⟨h, _⟩ | ⟨x, len, cap, _, _, _, _, h, _⟩
    · exact ⟨_, _, _, by simpa using h⟩
    · exact ⟨_, _, _, by simpa using h⟩
  obtain ⟨a, l, c, rfl⟩ := hsl
  obtain ⟨g, h1, h2⟩ := arg_rowsR (j := 0) u0 hk hce hpos hby (a := a) (l := l) (c := c) g0 hsz' rfl rfl
  refine ⟨a, l, c, y, g, ?_, h1, h2, hw⟩
  obtain ⟨cl⟩ := cs
  have hcs : cl = [.slice a l c, .int k y] := hcs
  rw [hcs]
end
end Go.Proofs.Ytpkckgdpdnkbeaa
