/- A symbolic run of Go code: append. -/
import Derived.Test.YtcplbpnpcmgjfabYu
import Derived.Maps.AppendAt
namespace Go.Proofs.Ytcplbpnpcmgjfab
open Go.RowKit
section
variable {P : Program} {w : World}
theorem run_append_zero {t e : TypeId} {i : TypeInfo} (ht : P.underlying t = some (.slice e)) (hi : P.info? e = some i) (ty : TypeId) (b b2 : Option Addr) {n cap c2 : Nat} (hle : n ≤ cap) :
    (Builtin.append_ #[t, t] ty #[.slice b n cap, .slice b2 0 c2]).run P w = .ok (.slice b n cap) w := by
  have hu : ∀ w, (underlying t : Sem TypeDesc).run P w = .ok (.slice e) w := fun w => run_underlying ht w
  cases b <;> cases b2 <;> simp [Builtin.append_, hu, sizeOf, typeInfo, hi, Builtin.lenOf, Builtin.firstCells, loadCells, loadCellsFrom, hle, storeCells]
theorem clean_one {v : Value} (h : cleanS v = true) : v.oneCell' = true := by cases v <;> first | rfl | cases h
theorem flat_clean (sh : List LK) (g : Nat → List Value) (n : Nat) : ∀ u ∈ flat sh n g, u.oneCell' = true := fun u hu => by
  unfold flat at hu
  obtain ⟨k, _, hk⟩ := List.mem_flatMap.1 hu
  obtain ⟨i, hi⟩ := List.mem_iff_getElem?.1 hk
  exact clean_one (allB_at (norm_clean sh _) i u hi)
/-- a growing list of ours, as memory's object has it -/
theorem own_fin {base e sz N : Nat} {u : Value} {xs : List Value} (h : w.ownsRow base e sz u N xs) : ∃ l c, w.ownsRow base e sz (rowV l N c) N xs ∧ (∀ b s z, l = some (b, s, z) → s = 0 ∧ z = sz ∧ b < w.heap.size ∧ u.ownBlock = some b) ∧ ∀ ρ i, ρ i = some l → Rn ρ (.slice (some ⟨i, 0, none⟩) N c) u := by
  have h0 := h
  rcases h.2 with ⟨rfl, rfl⟩ | ⟨g, cap, cur, rfl, hb, hg, hnc, hcm, hcs, ht⟩
  · exact ⟨none, 0, h0, fun b s z e => (by cases e), fun ρ i _ => .sliceE rfl rfl⟩
  · refine ⟨some (g, 0, sz), cap, h0, fun b s z e => (by cases e; exact ⟨rfl, rfl, (Array.getElem?_eq_some_iff.1 hg).1, rfl⟩), fun ρ i e => ?_⟩
    have := Rn.slice (ρ := ρ) (i := i) (o := 0) N cap e hnc
    simpa using this
/-- what is appended lies there -/
def Src (w : World) (sh : List LK) (m : Nat) (g : Nat → List Value) (u : Value) : Prop := ∃ a c, u = .slice a m c ∧ (m = 0 ∨ ∃ x, a = some x ∧ ∀ (j : Nat) v, (flat sh m g)[j]? = some v → w.cell? (x.add j) = some v)
def joinG (n : Nat) (g f : Nat → List Value) : Nat → List Value := fun k => bif Nat.blt k n then g k else f (k - n)
theorem app_own {t ty e base n m : Nat} {i : TypeInfo} {z u uy : Value} {sh : List LK} {g f : Nat → List Value} (ht : P.underlying t = some (.slice e)) (hi : P.info? e = some i) (hz : i.zero = some z) (hsize : i.size = sh.length) (hzs : z.cells.size = sh.length) (hsz : 0 < sh.length) (hb0 : 0 < i.bytes)
    (hu : w.ownsRow base e sh.length u n (flat sh n g)) (hy : Src w sh m f uy) (hby : (n + m) * i.bytes ≤ 140737488355328) (hbase : base ≤ w.heap.size) :
    ∃ u' w', (Builtin.append_ #[t, t] ty #[u, uy]).run P w = .ok u' w' ∧ w'.ownsRow base e sh.length u' (n + m) (flat sh (n + m) (joinG n g f)) ∧ w.grownBy w' u.ownBlock ∧ (u'.ownBlock = u.ownBlock ∨ u'.ownBlock = some w.heap.size) := by
  have h63 : n + m ≤ maxLen := by
    have h1 : (n + m) * 1 ≤ (n + m) * i.bytes := Nat.mul_le_mul_left _ hb0
    simp only [maxLen]
    omega
  obtain ⟨a, c, rfl, hy⟩ := hy
  have zero : m = 0 → ∃ u' w', (Builtin.append_ #[t, t] ty #[u, .slice a m c]).run P w = .ok u' w' ∧ w'.ownsRow base e sh.length u' (n + m) (flat sh (n + m) (joinG n g f)) ∧ w.grownBy w' u.ownBlock ∧ (u'.ownBlock = u.ownBlock ∨ u'.ownBlock = some w.heap.size) := fun hm => by
    subst hm
    have hfl : flat sh (n + 0) (joinG n g f) = flat sh n g := by
      rw [show joinG n g f = fun k => bif Nat.blt k n then g k else f (k - n) from rfl, ← flat_join]
      simp [flat]
    rw [hfl]
    refine ⟨u, w, ?_, hu, ⟨rfl, rfl, rfl, Nat.le_refl _, fun _ _ _ => rfl⟩, .inl rfl⟩
    rcases hu.2 with ⟨rfl, rfl⟩ | ⟨_, cap, _, rfl, _, _, hnc, _⟩
    · exact run_append_zero ht hi ty _ _ (Nat.le_refl _)
    · exact run_append_zero ht hi ty _ _ hnc
  rcases hy with hm | ⟨x, rfl, hx⟩
  · exact zero hm
  · obtain ⟨u', w', r1, r2, r3, _, r5⟩ := run_append_own_at (P := P) w base t ty e i z sh.length i.bytes ht hi hz hsize rfl hzs hsz u n (flat sh n g) hu x m c (flat sh m f) (flat_len sh f m) hx (flat_clean sh f m) h63 hby hbase
    rw [flat_join] at r2
    exact ⟨u', w', r1, r2, r3, r5⟩
/-- onto a list that has no room and no elements, wherever it may lie -/
theorem app_none {t ty e base m : Nat} {i : TypeInfo} {z uy : Value} {ad : Option Addr} {sh : List LK} {g f : Nat → List Value} (ht : P.underlying t = some (.slice e)) (hi : P.info? e = some i) (hz : i.zero = some z) (hsize : i.size = sh.length) (hzs : z.cells.size = sh.length) (hsz : 0 < sh.length) (hb0 : 0 < i.bytes)
    (hy : Src w sh m f uy) (hby : (0 + m) * i.bytes ≤ 140737488355328) (hbase : base ≤ w.heap.size) :
    ∃ u' w', (Builtin.append_ #[t, t] ty #[.slice ad 0 0, uy]).run P w = .ok u' w' ∧ w.grownBy w' none ∧ ((m = 0 ∧ u' = .slice ad 0 0 ∧ w' = w) ∨ (w'.ownsRow base e sh.length u' (0 + m) (flat sh (0 + m) (joinG 0 g f)) ∧ (u'.ownBlock = none ∨ u'.ownBlock = some w.heap.size))) := by
  obtain ⟨a, c, rfl, hy⟩ := hy
  have zero : m = 0 → ∃ u' w', (Builtin.append_ #[t, t] ty #[.slice ad 0 0, .slice a m c]).run P w = .ok u' w' ∧ w.grownBy w' none ∧ ((m = 0 ∧ u' = .slice ad 0 0 ∧ w' = w) ∨ (w'.ownsRow base e sh.length u' (0 + m) (flat sh (0 + m) (joinG 0 g f)) ∧ (u'.ownBlock = none ∨ u'.ownBlock = some w.heap.size))) := fun hm => by
    subst hm
    exact ⟨_, w, run_append_zero ht hi ty _ _ (Nat.le_refl _), ⟨rfl, rfl, rfl, Nat.le_refl _, fun _ _ _ => rfl⟩, .inl ⟨rfl, rfl, rfl⟩⟩
  rcases hy with hm | ⟨x, rfl, hx⟩
  · exact zero hm
  · by_cases hm : m = 0
    · exact zero hm
    · cases ad with
      | none =>
        obtain ⟨u', w', r1, r2, r3, r5⟩ := app_own (P := P) (ty := ty) (g := g) ht hi hz hsize hzs hsz hb0 (World.ownsRow_nil w base e sh.length) ⟨some x, c, rfl, .inr ⟨x, rfl, hx⟩⟩ hby hbase
        exact ⟨u', w', r1, r3, .inr ⟨r2, r5⟩⟩
      | some b =>
        have h1 : (0 + m) * 1 ≤ (0 + m) * i.bytes := Nat.mul_le_mul_left _ hb0
        have hmx : 0 + m ≤ maxLen := by simp only [maxLen]; omega
        have hr := run_append_grow (P := P) w t ty e i z ht hi hz b 0 0 [] (by simp) (by simp) x m c (flat sh m f) (by rw [hsize]; exact flat_len sh f m) hx (by omega) (by omega) (growslice_fits (by omega) hby)
        refine ⟨_, _, hr, ⟨rfl, rfl, rfl, by simp, fun k hk _ => heap_alloc_old w.drew _ k hk⟩, .inr ⟨⟨flat_len _ _ _, .inr ⟨w.heap.size, _, _, rfl, hbase, heap_alloc_new w.drew _, grownCap_ge w _ _ e, grownCap_le_maxLen w _ _ e hmx, ?_, ?_⟩⟩, .inr rfl⟩⟩
        · have := grownCap_ge w (0 + m) 0 e
          simp only [Array.size_append, List.size_toArray, size_zeroCells, hzs, flat_len, List.length_nil, Nat.zero_add, ← Nat.add_mul] at this ⊢
          congr 1
          omega
        · have hj : flat sh (0 + m) (joinG 0 g f) = flat sh m f := by
            rw [show joinG 0 g f = fun k => bif Nat.blt k 0 then g k else f (k - 0) from rfl, ← flat_join]
            simp [flat]
          rw [hj]
          simp only [Nat.zero_add, Array.toList_append, Array.empty_append]
          rw [← flat_len sh f m]
          exact List.take_left
/-- the list that is appended to: less what is said of it; its elements -/
def appAt (H : List AObj) (e : TypeId) (sh : List LK) (x : Value) (k : List AObj → Nat → (Nat → List Value) → Out) : Out :=
  match x with
  | .slice none l c => (match Nat.beq l 0 && Nat.beq c 0 with | true => k H 0 (fun _ => []) | false => .bad)
  | .slice (some ⟨i, 0, none⟩) l c => (match nthL H i with
    | some (.row e' sh' n c' g) => (match Nat.beq e' e && shEq sh' sh with | true => .ask (l = n ∧ c = c') (k (setL H i .gone) n g) | false => .bad)
    | some (.cells _ []) => (match Nat.beq l 0 && Nat.beq c 0 with | true => k H 0 (fun _ => []) | false => .bad)
    | _ => .bad)
  | _ => .bad
theorem appAt_ok {Φ : Lf} {base : Nat} {w0 : World} {ρ : Ren} {H : List AObj} {e : TypeId} {sh : List LK} {x u : Value} {k : List AObj → Nat → (Nat → List Value) → Out} (h : (appAt H e sh x k).sat Φ) (hc : HC base w0 ρ H w) (hr : Rn ρ x u) :
    ∃ H1 n g, (k H1 n g).sat Φ ∧ H1.length = H.length ∧ (∀ (j : Nat) o, H1[j]? = some o → o = .gone ∨ H[j]? = some o) ∧
      ((n = 0 ∧ ∃ ad, u = .slice ad 0 0) ∨ (w.ownsRow base e sh.length u n (flat sh n g) ∧ ∀ (j : Nat) o, H1[j]? = some o → o = .gone ∨ ∀ b s z, ρ j = some (some (b, s, z)) → some b ≠ u.ownBlock)) := by
  have emp : ∀ {a l c}, Rn ρ (.slice a l c) u → l = 0 → c = 0 → ∃ ad, u = .slice ad 0 0 := fun hr hl hc => by
    subst hl hc
    cases hr <;> exact ⟨_, rfl⟩
  unfold appAt at h
  split at h
  · rename_i l c
    split at h
    · rename_i hb
      rw [Bool.and_eq_true, Nat.beq_eq, Nat.beq_eq] at hb
      exact ⟨H, 0, _, h, rfl, fun j o ho => .inr ho, .inl ⟨rfl, emp hr hb.1 hb.2⟩⟩
    · exact h.elim
  · rename_i i l c
    split at h
    · rename_i e' sh' n c' g ho
      rw [nthL_eq] at ho
      split at h
      · rename_i hb
        rw [Bool.and_eq_true, Nat.beq_eq] at hb
        obtain ⟨rfl, hsh⟩ := hb
        have := shEq_eq hsh
        subst this
        obtain ⟨⟨rfl, rfl⟩, h⟩ := h
        rw [setL_eq] at h
        have hset : ∀ (j : Nat) o, (H.set i .gone)[j]? = some o → o = .gone ∨ (i ≠ j ∧ H[j]? = some o) := fun j o hj => by
          by_cases hij : i = j
          · subst hij
            rw [List.getElem?_set_self ((List.getElem?_eq_some_iff.1 ho).1)] at hj
            cases hj
            exact .inl rfl
          · rw [List.getElem?_set_ne hij] at hj
            exact .inr ⟨hij, hj⟩
        refine ⟨_, _, _, h, List.length_set .., fun j o hj => (hset j o hj).imp id fun e => e.2, ?_⟩
        obtain ⟨l0, g1, g0, g2⟩ := hc.obj i _ ho
        rcases hr.sliceA with ⟨b, s, z, hm, hlc, rfl⟩ | ⟨rfl, rfl, ad, rfl⟩
        · rw [hm] at g1
          cases g1
          obtain ⟨rfl, rfl⟩ := g0 b s z rfl
          refine .inr ⟨by simpa [placeOf, rowV] using g2, fun j o hj => ?_⟩
          rcases hset j o hj with e | ⟨hij, hj⟩
          · exact .inl e
          · by_cases hg : o = .gone
            · exact .inl hg
            · refine .inr fun b' s' z' e hb' => ?_
              cases hb'
              exact hc.apart i j _ b 0 _ b s' z' o ho rfl hj (fun e => hg e) hm e hij rfl
        · exact .inl ⟨rfl, _, rfl⟩
      · exact h.elim
    · split at h
      · rename_i hb
        rw [Bool.and_eq_true, Nat.beq_eq, Nat.beq_eq] at hb
        exact ⟨H, 0, _, h, rfl, fun j o ho => .inr ho, .inl ⟨rfl, emp hr hb.1 hb.2⟩⟩
      · exact h.elim
    · exact h.elim
  · exact h.elim
end
/-- append -/
def mappend (P : Program) (t : TypeId) (x y : Option Value) (d : Option Tmp) (S : ASt) (k : ASt → Out) : Out :=
  match P.underlying t with
  | some (.slice e) => (match P.info? e with
    | some inf => (match inf.zero with
      | some z => (match kindsOf P 9 e with
        | some sh => (match Nat.beq inf.size sh.length && Nat.beq (cellsL z).length sh.length && Nat.blt 0 sh.length && Nat.blt 0 inf.bytes with
          | true => (match x with
            | some x => (match y with
              | some y => appAt S.heap e sh x fun H1 n g => rowsOf S.heap sh y fun m _ f => .ask ((n + m) * inf.bytes ≤ 140737488355328) (.all fun c =>
                  k (ASt.put ⟨S.slots, H1 ++ [.row e sh (n + m) c (joinG n g f)]⟩ d (.slice (some ⟨S.heap.length, 0, none⟩) (n + m) c)))
              | none => .bad)
            | none => .bad)
          | false => .bad)
        | none => .bad)
      | none => .bad)
    | none => .bad)
  | _ => .bad
end Go.Proofs.Ytcplbpnpcmgjfab
