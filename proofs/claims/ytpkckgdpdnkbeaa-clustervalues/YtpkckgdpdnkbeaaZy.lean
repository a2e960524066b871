/- What comes in, read: flat structs, lists of them. -/
import Derived.Test.YtpkckgdpdnkbeaaZt
import Derived.SizedLaws
import Derived.Deep.MidRow
import Derived.Deep.Slices
import Derived.ChangeSame
import Derived.Shelf.Abstract
import Derived.WalkKit
import Derived.ProofKit
import Derived.OpenShut
namespace Go.Proofs.Ytpkckgdpdnkbeaa
open Go.ChangeShapes Go.WideShapes Go.ChangeAt Go.RowKit Go.Shelf
theorem norm_app {a b : List LK} : ∀ {u v : List Value}, u.length = a.length → norm (a ++ b) (u ++ v) = norm a u ++ norm b v := by
  induction a with
  | nil => intro u v h; have : u = [] := List.length_eq_zero_iff.1 h; subst this; rfl
  | cons k a ih =>
    intro u v h
    cases u with
    | nil => simp at h
    | cons x u =>
      have := ih (u := u) (v := v) (by simpa using h)
      cases k <;> simp [norm, hdV, tlV, this]
section
variable {P : Program} {H : Type} {enc : TypeId × Value → H} {W : World}
theorem kinds_ok : ∀ (n : Nat) {t : TypeId} {sh : List LK}, kindsOf P n t = some sh → ∀ {fuel : Nat} {cs : List Value} {x : DataW H × List MemPlace}, DataW.trod enc P W 0 (fun _ => true) true fuel t cs = some x → norm sh cs = cs
  | 0, t, sh, h, _, _, _, _ => by cases h
  | n + 1, t, sh, h, fuel, cs, x, hx => by
    unfold kindsOf at h
    split at h
    · rename_i k hu
      cases h
      obtain ⟨m, rfl, _⟩ := DataW.trod_int hu hx
      rfl
    · rename_i hu
      cases h
      obtain ⟨s, rfl, _⟩ := DataW.trod_string hu hx
      rfl
    · rename_i hu
      cases h
      obtain ⟨b, rfl, _⟩ := DataW.trod_bool hu hx
      rfl
    · rename_i fs hu
      split at h
      · rename_i l hl
        cases hb : Nat.beq (P.cellsOf t) l.length with
        | false => rw [hb] at h; cases h
        | true =>
          rw [hb] at h
          cases h
          rw [Nat.beq_eq] at hb
          obtain ⟨xs, m, _, _, hlen, hxl, hf⟩ := DataW.trod_struct hu hx
          have go : ∀ (fs' : List Field) (off : Nat) (l : List LK), kindsF P (kindsOf P n) fs' off = some l → (∀ f ∈ fs', ∃ y, DataW.trod enc P W 0 (fun _ => true) true m f.type ((cs.drop f.offset).take (P.cellsOf f.type)) = some y) → off + l.length ≤ cs.length → norm l ((cs.drop off).take l.length) = (cs.drop off).take l.length := fun fs' => by
            induction fs' with
            | nil => intro off l hk _ _; cases hk; simp [norm]
            | cons f fs' ih =>
              intro off l hk hy hle
              unfold kindsF at hk
              split at hk
              · rename_i ks hks
                cases hb2 : (Nat.beq f.offset off && Nat.beq (P.cellsOf f.type) ks.length) with
                | false => rw [hb2] at hk; cases hk
                | true =>
                  rw [hb2] at hk
                  rw [Bool.and_eq_true, Nat.beq_eq, Nat.beq_eq] at hb2
                  simp only [cond_true] at hk
                  split at hk
                  · rename_i l' hl'
                    cases hk
                    obtain ⟨y, hy0⟩ := hy f (List.mem_cons_self ..)
                    have h1 := kinds_ok n hks hy0
                    rw [hb2.1, hb2.2] at h1
                    rw [List.length_append] at hle
                    have h2 := ih (off + ks.length) l' hl' (fun g hg => hy g (List.mem_cons_of_mem _ hg)) (by omega)
                    have e : (cs.drop off).take (ks ++ l').length = (cs.drop off).take ks.length ++ (cs.drop (off + ks.length)).take l'.length := by
                      rw [List.length_append, List.take_add, List.drop_drop]
                    rw [e, norm_app (by rw [List.length_take, List.length_drop]; omega), h1, h2]
                  · cases hk
              · cases hk
          have := go fs 0 _ hl (fun f hf' => by
            obtain ⟨i, hi⟩ := List.mem_iff_getElem?.1 hf'
            have := hf i f (by simpa using hi)
            have hil : i < xs.length := by rw [hxl]; have := (List.getElem?_eq_some_iff.1 hi).1; simpa using this
            exact ⟨xs[i], by rw [this]; exact List.getElem?_eq_getElem hil⟩) (by omega)
          rw [List.drop_zero, List.take_of_length_le (by omega)] at this
          exact this
      · cases h
    · cases h
/-- A FLAT STRUCT that came in. -/
theorem open_flat {t : TypeId} {fs : Array Field} {sh : List LK} {n b0 : Nat} {v : Value} {d : DataW H} {ps : List MemPlace} (hu : P.underlying t = some (.struct fs)) (hk : kindsOf P n t = some sh) (hval : Value.okWide P W .any b0 t v) (hd : DataW.Trod enc P W 0 (fun _ => true) true t v d ps) : ∃ cs, v = .agg ⟨norm sh cs⟩ := by
  obtain ⟨cs, rfl, _⟩ := okWide_struct hu hval
  obtain ⟨fuel, hf⟩ := hd
  have h1 := kinds_ok n hk hf
  refine ⟨cs.toList, ?_⟩
  have e0 : (Value.agg cs).cells.toList = cs.toList := rfl
  rw [e0] at h1
  rw [h1]
/-- what an argument is to the run -/
def ArgOk (W : World) : CA → Value → Prop
  | .val v, u => u = v ∧ clean v = true
  | .rows sh len g, u => ∃ l, (RowAt W l sh len g ∧ len ≤ 140737488355328) ∧ ∀ ρ' i, ρ' i = some l → Rn ρ' (.slice (some ⟨i, 0, some 0⟩) len len) u
/-- A LIST OF FLAT THINGS that came in. -/
theorem arg_rows {t e : TypeId} {sh : List LK} {n fuel : Nat} {a : Option Addr} {l c : Nat} {d : DataW H} {p : List MemPlace} {ts : List TypeId} {ds : List (DataW H)} {j : Nat} (hu : P.underlying t = some (.slice e)) (hk : kindsOf P n e = some sh) (hce : P.cellsOf e = sh.length) (hpos : 0 < sh.length) (hby : 0 < P.bytesOf e)
    (hf : DataW.trod enc P W 0 (fun _ => true) true fuel t (Value.slice a l c).cells.toList = some (d, p)) (hsz : (DataW.weightsEach P ts ds).all (· ≤ reachBytes) = true) (ht : ts[j]? = some t) (hd : ds[j]? = some d) : ∃ g, ArgOk W (.rows sh l g) (.slice a l c) := by
  rcases Deep.open_slice hu hf with ⟨hcs, _⟩ | ⟨x, len, cap, m, n', D, Pl, hcs, _, hl, hm, hmm, hx, hel⟩
  · simp [Value.cells] at hcs
    obtain ⟨rfl, rfl, rfl⟩ := hcs
    exact ⟨fun _ => [], none, ⟨⟨fun b s z e => (by cases e), .inl rfl⟩, by omega⟩, fun ρ' i _ => .sliceE rfl rfl⟩
  · simp [Value.cells] at hcs
    obtain ⟨rfl, rfl, rfl⟩ := hcs
    obtain ⟨rfl, rfl⟩ := Prod.mk.inj hx
    have hb := sized_slice hsz (j := j) (t := t) (e := e) ht hd hu
    simp only [List.length_map, List.length_range, reachBytes] at hb
    simp only [if_true] at hmm
    subst hmm
    have hle : l ≤ 140737488355328 := by
      have h1 : (l + (m - l)) * 1 ≤ (l + (m - l)) * P.bytesOf e := Nat.mul_le_mul_left _ hby
      omega
    have each : ∀ i, i < m → ∃ cs : List Value, norm sh cs = cs ∧ cs.length = sh.length ∧ ∀ q u, cs[q]? = some u → W.cell? ((x.add (i * sh.length)).add q) = some u := by
      intro i hi
      obtain ⟨cs, h1, h2⟩ := hel i hi
      rw [hce] at h1
      obtain ⟨_, hlen, h3⟩ := World.cells?_some h1
      refine ⟨cs, kinds_ok n hk h2, hlen, fun q u hq => ?_⟩
      have hql := (List.getElem?_eq_some_iff.1 hq).1
      have := h3 q (by omega)
      rw [this]
      exact hq
    obtain ⟨f, hfl⟩ := Deep.choose_lt (α := List Value) (p := fun i cs => norm sh cs = cs ∧ cs.length = sh.length ∧ ∀ q u, cs[q]? = some u → W.cell? ((x.add (i * sh.length)).add q) = some u) each
    refine ⟨f, ?_⟩
    by_cases h0 : m = 0
    · have e1 : l = 0 := by omega
      subst e1
      subst h0
      exact ⟨none, ⟨⟨fun b s z e => (by cases e), .inl rfl⟩, by omega⟩, fun ρ' i _ => .sliceE rfl rfl⟩
    · obtain ⟨b, off, sp⟩ := x
      cases sp with
      | some s =>
        obtain ⟨_, hlen, h6⟩ := hfl 0 (by omega)
        have hz : (f 0)[0]? = some ((f 0)[0]'(by omega)) := List.getElem?_eq_getElem _
        have := h6 0 _ hz
        simp [World.cell?, Addr.add] at this
        split at this <;> simp at this
      | none =>
        have hc : ∀ k, k < m → Lies W b (off + k * sh.length) (norm sh (f k)) := fun k hk' q u hq => by
          obtain ⟨e1, _, e2⟩ := hfl k hk'
          rw [e1] at hq
          have := e2 q u hq
          rw [Addr.add_mid, Addr.add_mid] at this
          exact this
        have hlt : b < W.heap.size := by
          have hz : (norm sh (f 0))[0]? = some ((norm sh (f 0))[0]'(by rw [norm_len]; exact hpos)) := List.getElem?_eq_getElem _
          have := hc 0 (by omega) 0 _ hz
          unfold World.cell? at this
          by_cases hp : b < W.heap.size
          · exact hp
          · rw [Array.getElem?_eq_none (by simpa using hp)] at this
            cases this
        refine ⟨some (b, off, sh.length, m), ⟨⟨fun b' s' z' e => (by cases e; exact ⟨rfl, hlt⟩), .inr ⟨b, off, m, rfl, fun k hk' => hc k (by omega)⟩⟩, hle⟩, fun ρ' i e => ?_⟩
        have := Rn.sliceR (ρ := ρ') (i := i) (o := 0) (r := 0) l l m e (Nat.le_refl _) hl (by simp)
        simpa using this
/-- all arguments together -/
theorem args_ok : ∀ {cas : List CA} {us : List Value}, cas.length = us.length → (∀ (i : Nat) c u, cas[i]? = some c → us[i]? = some u → ArgOk W c u) → ∃ ps, PlA W cas ps ∧ ∀ ρ' i, (∀ j, j < ps.length → ∃ p, ps[j]? = some p ∧ ρ' (i + j) = some p) → RL ρ' (canonA i cas) us
  | [], [], _, _ => ⟨[], trivial, fun ρ' i _ => .nil ρ'⟩
  | .val v :: cas, u :: us, hl, h => by
    obtain ⟨ps, h1, h2⟩ := args_ok (cas := cas) (us := us) (by simpa using hl) (fun i c u hc hu => h (i + 1) c u (by simpa using hc) (by simpa using hu))
    obtain ⟨rfl, hcl⟩ := h 0 (.val v) u (by simp) (by simp)
    exact ⟨ps, h1, fun ρ' i hp => .cons ((clean_Rn hcl).2 rfl) (h2 ρ' i hp)⟩
  | .rows sh len g :: cas, u :: us, hl, h => by
    obtain ⟨ps, h1, h2⟩ := args_ok (cas := cas) (us := us) (by simpa using hl) (fun i c u hc hu => h (i + 1) c u (by simpa using hc) (by simpa using hu))
    obtain ⟨l, hr, hs⟩ := h 0 (.rows sh len g) u (by simp) (by simp)
    refine ⟨l :: ps, ⟨hr, h1⟩, fun ρ' i hp => .cons ?_ (h2 ρ' (i + 1) fun j hj => ?_)⟩
    · obtain ⟨p, p1, p2⟩ := hp 0 (by simp)
      simp at p1
      subst p1
      exact hs ρ' i p2
    · obtain ⟨p, p1, p2⟩ := hp (j + 1) (by simpa using hj)
      exact ⟨p, by simpa using p1, by rw [show i + 1 + j = i + (j + 1) by omega]; exact p2⟩
  | [], _ :: _, hl, _ => by simp at hl
  | .val _ :: _, [], hl, _ => by simp at hl
  | .rows .. :: _, [], hl, _ => by simp at hl
theorem flat_back : ∀ {ks : List CK} {us ful : List Value}, flatV ks us = some ful → ∀ ρ' fl', RL ρ' fl' ful → RL ρ' (regr ks fl') us
  | [], [], ful, h, ρ', fl', hr => .nil ρ'
  | .one _ :: ks, v :: vs, ful, h, ρ', fl', hr => by
    unfold flatV at h
    split at h
    · rename_i r hf
      cases h
      cases fl' with
      | nil => have := hr.1; simp at this
      | cons x fl' =>
        obtain ⟨u', us2, e, h3, h4⟩ := hr.cons_inv
        cases e
        exact .cons h3 (flat_back hf ρ' fl' h4)
    · cases h
  | .agg l :: ks, v :: vs, ful, h, ρ', fl', hr => by
    unfold flatV at h
    split at h
    · rename_i e; cases e
    · rename_i e _; cases e
    · rename_i l' ks' cs vs' e1 e2
      cases e1
      cases e2
      split at h
      · rename_i hb
        rw [Nat.beq_eq] at hb
        split at h
        · rename_i r hf
          cases h
          rw [catV_eq] at hr
          obtain ⟨q1, q2⟩ := hr.split
          rw [hb] at q1 q2
          unfold regr
          rw [takeN_eq, dropN_eq]
          exact .cons (Rn.aggRL q1) (flat_back hf ρ' _ q2)
        · cases h
      · cases h
    · cases h
  | [], _ :: _, _, h, _, _, _ => by cases h
  | .one _ :: _, [], _, h, _, _, _ => by cases h
  | .agg _ :: _, [], _, h, _, _, _ => by cases h
theorem kindA_ok {W : World} : ∀ {ks : List C0} {cas : List CA} {us : List Value}, cas.length = us.length → ks.length = cas.length → (∀ (i : Nat) c u, cas[i]? = some c → us[i]? = some u → ArgOk W c u) → (∀ (i : Nat) k c, ks[i]? = some k → cas[i]? = some c → match k, c with | .val, .val _ => True | .rows sh, .rows sh' _ _ => sh' = sh | _, _ => False) → KindA ks cas
  | [], [], _, _, _, _, _ => trivial
  | k :: ks, c :: cas, u :: us, hl, hk, h, hs => by
    have ih := kindA_ok (ks := ks) (cas := cas) (us := us) (by simpa using hl) (by simpa using hk) (fun i c u hc hu => h (i + 1) c u (by simpa using hc) (by simpa using hu)) (fun i k c h1 h2 => hs (i + 1) k c (by simpa using h1) (by simpa using h2))
    have h0 := hs 0 k c rfl rfl
    have a0 := h 0 c u rfl rfl
    cases k <;> cases c <;> first | exact h0.elim | skip
    · exact ⟨a0.2, ih⟩
    · exact ⟨h0, ih⟩
  | [], _ :: _, _, _, hk, _, _ => by simp at hk
  | _ :: _, [], _, _, hk, _, _ => by simp at hk
  | _ :: _, _ :: _, [], hl, _, _, _ => by simp at hl
/-- A LAW, by its run. -/
theorem law_ok {Kn : Kn} (hK : Kn.Ok) {L : Nat → Option LCon} {f : FuncId} {fn : Func} (hf : Kn.P.funcs[f]? = some fn) (hL : ∀ c, fn.body = some c → ∀ c' ∈ loops c, ∀ F, L (key c') = some F → LOk Kn.P c' F) {ks : List CK} {cas : List CA} {us ful : List Value} {r : Value} (hcl : clean r = true)
    (hfl : flatV ks us = some ful) (hl : cas.length = ful.length) (ha : ∀ (i : Nat) c u, cas[i]? = some c → ful[i]? = some u → ArgOk W c u) (h : Bnd cas → (evV Kn L fn (regr ks (canonA 0 cas)) (canonH cas)).sat fun _ S => S.slots = [some r]) : Calls Kn.P f ⟨us⟩ W fun e w' => e = .returned r ∧ Below W.heap.size W w' := by
  obtain ⟨ps, h1, h2⟩ := args_ok hl ha
  have hA := h2 (fun i => ps[i]?) 0 fun j hj => ⟨ps[j], List.getElem?_eq_getElem hj, by rw [Nat.zero_add]; exact List.getElem?_eq_getElem hj⟩
  exact evV_ok hK hf hL (h h1.bnd) (HC.canon h1 (Below.refl _ _)) (flat_back hfl _ _ hA) fun H' ρ' w2 u hc2 _ hr2 => ⟨by rw [(clean_Rn hcl).1 hr2], hc2.below⟩
end
theorem arg_len {P : Program} {H : Type} {enc : TypeId × Value → H} {W : World} {t e : TypeId} {fuel : Nat} {a : Option Addr} {l c : Nat} {d : DataW H} {p : List MemPlace} (hu : P.underlying t = some (.slice e))
    (hf : DataW.trod enc P W 0 (fun _ => true) true fuel t (Value.slice a l c).cells.toList = some (d, p)) : l = 0 ∨ ∃ elems spare, d = .slice elems spare ∧ elems.length = l := by
  rcases Deep.open_slice hu hf with ⟨hcs, _⟩ | ⟨x, len, cap, m, n', D, Pl, hcs, _, hl, hm, hmm, hx, hel⟩
  · simp [Value.cells] at hcs
    obtain ⟨rfl, rfl, rfl⟩ := hcs
    exact .inl rfl
  · simp [Value.cells] at hcs
    obtain ⟨rfl, rfl, rfl⟩ := hcs
    obtain ⟨rfl, rfl⟩ := Prod.mk.inj hx
    exact .inr ⟨_, _, rfl, by simp⟩
end Go.Proofs.Ytpkckgdpdnkbeaa
