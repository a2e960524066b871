/- A symbolic run of Go code: append. -/
import Derived.Test.YtpkckgdpdnkbeaaZu
import Derived.Laws.OwnMore
namespace Go.Proofs.Ytpkckgdpdnkbeaa
open Go.RowKit
section
variable {P : Program} {w : World}
theorem run_append_zero {t e : TypeId} {i : TypeInfo} (ht : P.underlying t = some (.slice e)) (hi : P.info? e = some i) (ty : TypeId) (b b2 : Option Addr) {n cap c2 : Nat} (hle : n ≤ cap) :
    (Builtin.append_ #[t, t] ty #[.slice b n cap, .slice b2 0 c2]).run P w = .ok (.slice b n cap) w := by
  have hu : ∀ w, (underlying t : Sem TypeDesc).run P w = .ok (.slice e) w := fun w => run_underlying ht w
  cases b <;> cases b2 <;> simp [Builtin.append_, hu, sizeOf, typeInfo, hi, Builtin.lenOf, Builtin.firstCells, loadCells, loadCellsFrom, hle, storeCells]
theorem clean_one {v : Value} (h : cleanS v = true) : v.oneCell' = true := by cases v <;> first | rfl | cases h
theorem flat_clean (sh : List LK) (g : Nat → List Value) (n : Nat) : ∀ u ∈ flat sh n g, u.oneCell' = true := fun u hu => by
  unfold flat at hu
  obtain ⟨k, _, hk⟩ := List.mem_flatMap.1 hu
  obtain ⟨i, hi⟩ := List.mem_iff_getElem?.1 hk
  exact clean_one (allB_at (norm_clean sh _) i u hi)
/-- a list of ours, as memory's object has it -/
theorem own_fin {base e sz N : Nat} {u : Value} {xs : List Value} (h : w.ownsRow base e sz u N xs) : ∃ l, w.ownsRow base e sz (rowV l N) N xs ∧ (∀ b s z, l = some (b, s, z) → s = 0 ∧ z.1 = sz ∧ b < w.heap.size ∧ u.ownBlock = some b) ∧ ∀ ρ i, ρ i = some l → Rn ρ (.slice (some ⟨i, 0, some 0⟩) N N) u := by
  have h0 := h
  rcases h.2 with ⟨rfl, rfl⟩ | ⟨g, cap, cur, rfl, hb, hg, hnc, hcm, hcs, ht⟩
  · exact ⟨none, h0, fun b s z e => (by cases e), fun ρ i _ => .sliceE rfl rfl⟩
  · refine ⟨some (g, 0, sz, cap), h0, fun b s z e => (by cases e; exact ⟨rfl, rfl, (Array.getElem?_eq_some_iff.1 hg).1, rfl⟩), fun ρ i e => ?_⟩
    have := Rn.sliceR (ρ := ρ) (i := i) (o := 0) (r := 0) N N cap e (Nat.le_refl _) hnc (by simp)
    simpa using this
/-- what is appended lies there -/
def Src (w : World) (sh : List LK) (m : Nat) (g : Nat → List Value) (u : Value) : Prop := ∃ a c, u = .slice a m c ∧ (m = 0 ∨ ∃ x, a = some x ∧ ∀ (j : Nat) v, (flat sh m g)[j]? = some v → w.cell? (x.add j) = some v)
def joinG (n : Nat) (g f : Nat → List Value) : Nat → List Value := fun k => bif Nat.blt k n then g k else f (k - n)
theorem app_own {t ty e base n m : Nat} {i : TypeInfo} {z u uy : Value} {sh : List LK} {g f : Nat → List Value} (ht : P.underlying t = some (.slice e)) (hi : P.info? e = some i) (hz : i.zero = some z) (hsize : i.size = sh.length) (hzs : z.cells.size = sh.length) (hsz : 0 < sh.length) (hb0 : 0 < i.bytes)
    (hu : w.ownsRow base e sh.length u n (flat sh n g)) (hy : Src w sh m f uy) (hby : (n + m) * i.bytes ≤ 140737488355328) (hbase : base ≤ w.heap.size) :
    ∃ u' w', (Builtin.append_ #[t, t] ty #[u, uy]).run P w = .ok u' w' ∧ w'.ownsRow base e sh.length u' (n + m) (flat sh (n + m) (joinG n g f)) ∧ w.grownBy w' u.ownBlock ∧ (u'.ownBlock = u.ownBlock ∨ u'.ownBlock = some w.heap.size) := by
  have h63 : n + m ≤ maxLen := by
    have h1 : (n + m) * 1 ≤ (n + m) * i.bytes := Nat.mul_le_mul_left _ hb0
    simp only [maxLen]
    omega
  obtain ⟨a, c, rfl, hy⟩ := hy
  have zero : m = 0 → ∃ u' w', (Builtin.append_ #[t, t] ty #[u, .slice a m c]).run P w = .ok u' w' ∧ w'.ownsRow base e sh.length u' (n + m) (flat sh (n + m) (joinG n g f)) ∧ w.grownBy w' u.ownBlock ∧ (u'.ownBlock = u.ownBlock ∨ u'.ownBlock = some w.heap.size) := fun hm => by
    subst hm
    have hfl : flat sh (n + 0) (joinG n g f) = flat sh n g := by
      rw [show joinG n g f = fun k => bif Nat.blt k n then g k else f (k - n) from rfl, ← flat_join]
      simp [flat]
    rw [hfl]
    refine ⟨u, w, ?_, hu, ⟨rfl, rfl, rfl, Nat.le_refl _, fun _ _ _ => rfl⟩, .inl rfl⟩
    rcases hu.2 with ⟨rfl, rfl⟩ | ⟨_, cap, _, rfl, _, _, hnc, _⟩
    · exact run_append_zero ht hi ty _ _ (Nat.le_refl _)
    · exact run_append_zero ht hi ty _ _ hnc
  rcases hy with hm | ⟨x, rfl, hx⟩
  · exact zero hm
  · obtain ⟨u', w', r1, r2, r3, _, r5⟩ := run_append_own_at (P := P) w base t ty e i z sh.length i.bytes ht hi hz hsize rfl hzs hsz u n (flat sh n g) hu x m c (flat sh m f) (flat_len sh f m) hx (flat_clean sh f m) h63 hby hbase
    rw [flat_join] at r2
    exact ⟨u', w', r1, r2, r3, r5⟩
/-- onto a list that has no room and no elements, wherever it may lie -/
theorem app_none {t ty e base m : Nat} {i : TypeInfo} {z uy : Value} {ad : Option Addr} {sh : List LK} {g f : Nat → List Value} (ht : P.underlying t = some (.slice e)) (hi : P.info? e = some i) (hz : i.zero = some z) (hsize : i.size = sh.length) (hzs : z.cells.size = sh.length) (hsz : 0 < sh.length) (hb0 : 0 < i.bytes)
    (hy : Src w sh m f uy) (hby : (0 + m) * i.bytes ≤ 140737488355328) (hbase : base ≤ w.heap.size) :
    ∃ u' w', (Builtin.append_ #[t, t] ty #[.slice ad 0 0, uy]).run P w = .ok u' w' ∧ w.grownBy w' none ∧ ((m = 0 ∧ u' = .slice ad 0 0 ∧ w' = w) ∨ (w'.ownsRow base e sh.length u' (0 + m) (flat sh (0 + m) (joinG 0 g f)) ∧ (u'.ownBlock = none ∨ u'.ownBlock = some w.heap.size))) := by
  obtain ⟨a, c, rfl, hy⟩ := hy
  have zero : m = 0 → ∃ u' w', (Builtin.append_ #[t, t] ty #[.slice ad 0 0, .slice a m c]).run P w = .ok u' w' ∧ w.grownBy w' none ∧ ((m = 0 ∧ u' = .slice ad 0 0 ∧ w' = w) ∨ (w'.ownsRow base e sh.length u' (0 + m) (flat sh (0 + m) (joinG 0 g f)) ∧ (u'.ownBlock = none ∨ u'.ownBlock = some w.heap.size))) := fun hm => by
    subst hm
    exact ⟨_, w, run_append_zero ht hi ty _ _ (Nat.le_refl _), ⟨rfl, rfl, rfl, Nat.le_refl _, fun _ _ _ => rfl⟩, .inl ⟨rfl, rfl, rfl⟩⟩
  rcases hy with hm | ⟨x, rfl, hx⟩
  · exact zero hm
  · by_cases hm : m = 0
    · exact zero hm
    · cases ad with
      | none =>
        obtain ⟨u', w', r1, r2, r3, r5⟩ := app_own (P := P) (ty := ty) (g := g) ht hi hz hsize hzs hsz hb0 (World.ownsRow_nil w base e sh.length) ⟨some x, c, rfl, .inr ⟨x, rfl, hx⟩⟩ hby hbase
        exact ⟨u', w', r1, r3, .inr ⟨r2, r5⟩⟩
      | some b =>
        have h1 : (0 + m) * 1 ≤ (0 + m) * i.bytes := Nat.mul_le_mul_left _ hb0
        have hmx : 0 + m ≤ maxLen := by simp only [maxLen]; omega
        have hr := run_append_grow (P := P) w t ty e i z ht hi hz b 0 0 [] (by simp) (by simp) x m c (flat sh m f) (by rw [hsize]; exact flat_len sh f m) hx (by omega) (by omega) (growslice_fits (by omega) hby)
        refine ⟨_, _, hr, ⟨rfl, rfl, rfl, by simp, fun k hk _ => heap_alloc_old w.drew _ k hk⟩, .inr ⟨⟨flat_len _ _ _, .inr ⟨w.heap.size, _, _, rfl, hbase, heap_alloc_new w.drew _, grownCap_ge w _ _ e, grownCap_le_maxLen w _ _ e hmx, ?_, ?_⟩⟩, .inr rfl⟩⟩
        · have := grownCap_ge w (0 + m) 0 e
          simp only [Array.size_append, List.size_toArray, size_zeroCells, hzs, flat_len, List.length_nil, Nat.zero_add, ← Nat.add_mul] at this ⊢
          congr 1
          omega
        · have hj : flat sh (0 + m) (joinG 0 g f) = flat sh m f := by
            rw [show joinG 0 g f = fun k => bif Nat.blt k 0 then g k else f (k - 0) from rfl, ← flat_join]
            simp [flat]
          rw [hj]
          simp only [Nat.zero_add, Array.toList_append, Array.empty_append]
          rw [← flat_len sh f m]
          exact List.take_left
/-- a list's first elements -/
theorem flat_take (sh : List LK) (g : Nat → List Value) {n : Nat} : ∀ {m}, n ≤ m → (flat sh m g).take (n * sh.length) = flat sh n g := by
  intro m h
  obtain ⟨d, rfl⟩ : ∃ d, m = n + d := ⟨m - n, by omega⟩
  have := flat_join sh g (fun k => g (n + k)) n d
  have e : flat sh (n + d) (fun k => bif Nat.blt k n then g k else g (n + (k - n))) = flat sh (n + d) g := flat_congr sh _ fun k hk => by
    by_cases hkn : k < n
    · have : Nat.blt k n = true := by rw [Nat.blt_eq]; exact hkn
      rw [this]; rfl
    · have : Nat.blt k n = false := by
        cases e : Nat.blt k n with
        | false => rfl
        | true => rw [Nat.blt_eq] at e; omega
      rw [this, show n + (k - n) = k by omega]; rfl
  rw [← e, ← this, ← flat_len sh g n, List.take_left]
theorem own_prefix {base e b q n l : Nat} {sh : List LK} {g : Nat → List Value} (h : w.ownsRow base e sh.length (.slice (some ⟨b, 0, none⟩) n q) n (flat sh n g)) (hl : l ≤ n) : w.ownsRow base e sh.length (.slice (some ⟨b, 0, none⟩) l q) l (flat sh l g) := by
  refine ⟨flat_len sh g l, ?_⟩
  rcases h.2 with ⟨e1, _⟩ | ⟨b', cap, cur, e1, hb, hg, hnc, hcm, hcs, ht⟩
  · cases e1
  · cases e1
    refine .inr ⟨b, q, cur, rfl, hb, hg, by omega, hcm, hcs, ?_⟩
    rw [← flat_take sh g hl, ← ht, List.take_take, Nat.min_eq_left (Nat.mul_le_mul_right _ hl)]
/-- the list that is appended to: what turns by it; its elements -/
def appAt (H : List AObj) (e : TypeId) (sh : List LK) (x : Value) (k : List (Nat × AObj) → Nat → (Nat → List Value) → Out) : Out :=
  match x with
  | .slice none l c => (match Nat.beq l 0 && Nat.beq c 0 with | true => k [] 0 (fun _ => []) | false => .bad)
  | .slice (some ⟨i, 0, some 0⟩) l _ => (match nthL H i with
    | some (.row e' sh' n g) => (match Nat.beq e' e && shEq sh' sh with | true => .ask (l ≤ n) (k [(i, .gone)] l g) | false => .bad)
    | _ => .bad)
  | _ => .bad
theorem appAt_ok {Φ : Lf} {base : Nat} {w0 : World} {ρ : Ren} {H : List AObj} {e : TypeId} {sh : List LK} {x u : Value} {k : List (Nat × AObj) → Nat → (Nat → List Value) → Out} (h : (appAt H e sh x k).sat Φ) (hc : HC base w0 ρ H w) (hr : Rn ρ x u) :
    ∃ gs n g, (k gs n g).sat Φ ∧ ((gs = [] ∧ n = 0 ∧ ∃ ad, u = .slice ad 0 0) ∨ ∃ i o, gs = [(i, .gone)] ∧ H[i]? = some o ∧ o.own = true ∧
      ((n = 0 ∧ ∃ ad, u = .slice ad 0 0) ∨ (w.ownsRow base e sh.length u n (flat sh n g) ∧ ∃ b s z, ρ i = some (some (b, s, z)) ∧ u.ownBlock = some b))) := by
  unfold appAt at h
  split at h
  · rename_i l c
    split at h
    · rename_i hb
      rw [Bool.and_eq_true, Nat.beq_eq, Nat.beq_eq] at hb
      obtain ⟨rfl, rfl⟩ := hb
      refine ⟨_, _, _, h, .inl ⟨rfl, rfl, ?_⟩⟩
      cases hr <;> exact ⟨_, rfl⟩
    · exact h.elim
  · rename_i i l c
    split at h
    · rename_i e' sh' n g ho
      rw [nthL_eq] at ho
      split at h
      · rename_i hb
        rw [Bool.and_eq_true, Nat.beq_eq] at hb
        obtain ⟨rfl, hsh⟩ := hb
        have := shEq_eq hsh
        subst this
        obtain ⟨hle, h⟩ := h
        refine ⟨_, _, _, h, .inr ⟨i, _, rfl, ho, rfl, ?_⟩⟩
        obtain ⟨l0, g1, g0, g2⟩ := hc.obj i _ ho
        rcases hr.sliceA with ⟨b, s, z, c', hm, hlc, hcc, _, hq, rfl⟩ | ⟨rfl, rfl, ad, rfl⟩
        · rw [hm] at g1
          cases g1
          obtain ⟨z1, z2⟩ := z
          obtain ⟨rfl, hz⟩ := g0 b s _ rfl
          have e1 := hq 0 rfl
          simp only [Nat.zero_add] at e1
          subst e1
          refine .inr ⟨?_, b, 0, _, hm, rfl⟩
          have := own_prefix g2 hle
          simpa [placeOf, rowV] using this
        · exact .inl ⟨rfl, _, rfl⟩
      · exact h.elim
    · exact h.elim
  · exact h.elim
end
theorem flat_lies {w : World} {b s m : Nat} {sh : List LK} {f : Nat → List Value} : (∀ k, k < m → Lies w b (s + k * sh.length) (norm sh (f k))) → ∀ (j : Nat) v, (flat sh m f)[j]? = some v → w.cell? ⟨b, s + j, none⟩ = some v := by
  induction m with
  | zero => intro _ j v hv; simp [flat] at hv
  | succ m ih =>
    intro h j v hv
    rw [flat_succ, List.getElem?_append, flat_len] at hv
    split at hv
    · exact ih (fun k hk => h k (by omega)) j v hv
    · have := h m (by omega) _ v hv
      rw [show s + m * sh.length + (j - m * sh.length) = s + j by omega] at this
      exact this
end Go.Proofs.Ytpkckgdpdnkbeaa
