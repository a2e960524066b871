/- The mathematics of stamps and copies. -/
import Derived.Test.YtpkckgdpdnkbeaaZy
import Derived.WalkKit
import Derived.ProofKit
import Derived.BigQuiet
import Derived.BigRegion
namespace Go.Proofs.Ytpkckgdpdnkbeaa
/-- a stamp -/
abbrev St := Int × Int
/-- what Check answers -/
def sck (p : St) : Int := if p.1 < 0 ∨ 1000000 < p.1 ∨ p.2 < 0 ∨ 31 < p.2 then 3 else 0
/-- is a's time less than b's, or the same, and its who less? -/
def slt (a b : St) : Bool := decide (a.1 < b.1 ∨ a.1 = b.1 ∧ a.2 < b.2)
theorem slt_t {a b : St} (h : a.1 < b.1 ∨ a.1 = b.1 ∧ a.2 < b.2) : slt a b = true := decide_eq_true h
theorem slt_f {a b : St} (h : ¬ (a.1 < b.1 ∨ a.1 = b.1 ∧ a.2 < b.2)) : slt a b = false := decide_eq_false h
theorem sck_or (p : St) : sck p = 0 ∨ sck p = 3 := by
  unfold sck
  split
  · exact .inr rfl
  · exact .inl rfl
/-- a copy -/
abbrev Cp := St × ByteArray
/-- the copy of nothing -/
def cz : Cp := ((0, 0), ⟨#[]⟩)
/-- what Check answers -/
def cck (c : Cp) : Int := if sck c.1 = 0 then (if 64 < c.2.size then 2 else 0) else sck c.1
theorem cck_or (c : Cp) : cck c = 0 ∨ cck c = 2 ∨ cck c = 3 := by
  unfold cck
  rcases sck_or c.1 with h | h
  · rw [if_pos h]
    split
    · exact .inr (.inl rfl)
    · exact .inl rfl
  · rw [if_neg (by rw [h]; decide), h]
    exact .inr (.inr rfl)
/-- the first error of copies -/
def cks : List Cp → Int
  | [] => 0
  | c :: L => if cck c = 0 then cks L else cck c
theorem cks_all : ∀ (L : List Cp), (∀ k, k < L.length → cck (L[k]?.getD cz) = 0) → cks L = 0
  | [], _ => rfl
  | c :: L, h => by
    have h0 : cck c = 0 := h 0 (by simp)
    show (if cck c = 0 then cks L else cck c) = 0
    rw [if_pos h0]
    exact cks_all L fun k hk => by simpa using h (k + 1) (by simpa using hk)
theorem cks_at : ∀ (L : List Cp) (k : Nat), k < L.length → (∀ j, j < k → cck (L[j]?.getD cz) = 0) → cck (L[k]?.getD cz) ≠ 0 → cks L = cck (L[k]?.getD cz)
  | [], k, h, _, _ => by simp at h
  | c :: L, 0, _, _, h => if_neg h
  | c :: L, k + 1, hk, h, hn => by
    have h0 : cck c = 0 := h 0 (by omega)
    show (if cck c = 0 then cks L else cck c) = _
    rw [if_pos h0]
    exact cks_at L k (by simpa using hk) (fun j hj => by simpa using h (j + 1) (by omega)) hn
theorem cks_zero : ∀ (L : List Cp), cks L = 0 → ∀ c ∈ L, cck c = 0
  | [], _, c, hc => by simp at hc
  | d :: L, h, c, hc => by
    by_cases h0 : cck d = 0
    · rcases List.mem_cons.1 hc with rfl | hc
      · exact h0
      · exact cks_zero L (by rw [← h]; exact (if_pos h0).symm) c hc
    · exact absurd ((if_neg h0 : cks (d :: L) = cck d).symm.trans h) h0
theorem cks_of (L : List Cp) (h : ∀ c ∈ L, cck c = 0) : cks L = 0 :=
  cks_all L fun k hk => h _ (by rw [List.getElem?_eq_getElem hk]; exact List.getElem_mem hk)
theorem cks_or : ∀ (L : List Cp), cks L = 0 ∨ cks L = 2 ∨ cks L = 3
  | [] => .inl rfl
  | c :: L => by
    by_cases h : cck c = 0
    · rw [show cks (c :: L) = cks L from if_pos h]; exact cks_or L
    · rw [show cks (c :: L) = cck c from if_neg h]; exact cck_or c
/-- checkList's error -/
def clE (L : List Cp) : Int := if 12 < L.length then 2 else cks L
theorem clE_or (L : List Cp) : clE L = 0 ∨ clE L = 2 ∨ clE L = 3 := by
  unfold clE
  split
  · exact .inr (.inl rfl)
  · exact cks_or L
theorem clE_zero {L : List Cp} (h : clE L = 0) : L.length ≤ 12 ∧ ∀ c ∈ L, cck c = 0 := by
  unfold clE at h
  split at h
  · omega
  · exact ⟨by omega, cks_zero L h⟩
theorem clE_of {L : List Cp} (h1 : L.length ≤ 12) (h2 : ∀ c ∈ L, cck c = 0) : clE L = 0 := by
  unfold clE
  rw [if_neg (by omega)]
  exact cks_of L h2
/-- that of both whose stamp is greater -/
def ltr (a b : Cp) : Cp := if slt a.1 b.1 = true then b else a
/-- the latest of the first k of copies -/
def latK (L : List Cp) (k : Nat) : Cp := ((L.take k).drop 1).foldl ltr (L[0]?.getD cz)
/-- the latest of copies -/
def lats (L : List Cp) : Cp := latK L L.length
theorem latK_one (L : List Cp) : latK L 1 = L[0]?.getD cz := by
  unfold latK
  rw [List.drop_take]
  simp
theorem latK_step {L : List Cp} {k : Nat} (h1 : 1 ≤ k) (hk : k < L.length) : latK L (k + 1) = ltr (latK L k) (L[k]?.getD cz) := by
  unfold latK
  rw [List.take_succ_eq_append_getElem hk, List.drop_append, List.foldl_append, List.getElem?_eq_getElem hk]
  have : 1 - (List.take k L).length = 0 := by rw [List.length_take]; omega
  rw [this]
  rfl
theorem lats_nil : lats [] = cz := rfl
/-- Store's error and answer -/
def soE (c d : Cp) : Int := cks [c, d]
def soV (c d : Cp) : Cp := if soE c d = 0 then ltr c d else cz
/-- Merge's answer (its error: clE) -/
def mgV (L : List Cp) : Cp := if clE L = 0 then lats L else cz
theorem or_pow {a k : Nat} (h : a < 2 ^ k) (hk : k < 64) : bits .or .u64 (a : Int) (IntKind.u64.wrap (2 ^ k)) = ((a + 2 ^ k : Nat) : Int) := by
  have hk2 : 2 ^ k < 18446744073709551616 := Nat.pow_lt_pow_right (by omega) hk
  have e : IntKind.u64.wrap ((2 : Int) ^ k) = ((2 ^ k : Nat) : Int) := by
    have : ((2 : Int) ^ k) = ((2 ^ k : Nat) : Int) := by push_cast; rfl
    rw [this, IntKind.wrap_u64]
    clear this
    generalize (2 : Nat) ^ k = P at hk2 ⊢
    omega
  rw [e, bits_or_u64_nat a (2 ^ k) (by omega) hk2, Nat.or_comm]
  have := Nat.two_pow_add_eq_or_of_lt h 1
  rw [Nat.mul_one] at this
  rw [← this, Nat.add_comm]
/-- the first k of copies whose stamp is below m, as a set -/
def slK (L : List Cp) (m : St) : Nat → Nat
  | 0 => 0
  | k + 1 => slK L m k + if slt (L[k]?.getD cz).1 m = true then 2 ^ k else 0
theorem slK_lt (L : List Cp) (m : St) : ∀ k, slK L m k < 2 ^ k
  | 0 => by simp [slK]
  | k + 1 => by
    have := slK_lt L m k
    rw [slK, Nat.pow_succ]
    split <;> omega
/-- Stale's answer (its error: clE) -/
def slV (L : List Cp) : Nat := if clE L = 0 then slK L (lats L).1 L.length else 0
theorem slt_iff (a b : St) : slt a b = true ↔ a.1 < b.1 ∨ a.1 = b.1 ∧ a.2 < b.2 := by unfold slt; exact decide_eq_true_iff
theorem slt_niff (a b : St) : slt a b = false ↔ ¬ (a.1 < b.1 ∨ a.1 = b.1 ∧ a.2 < b.2) := by unfold slt; exact decide_eq_false_iff_not
theorem slt_irr (a : St) : slt a a = false := (slt_niff a a).2 (by omega)
theorem slt_nn {a b c : St} (h1 : slt a b = false) (h2 : slt b c = false) : slt a c = false := by
  rw [slt_niff] at *
  omega
theorem slt_tr {a b c : St} (h1 : slt a b = true) (h2 : slt b c = true) : slt a c = true := by
  rw [slt_iff] at *
  omega
theorem slt_as {a b : St} (h : slt a b = true) : slt b a = false := by
  rw [slt_iff] at h
  rw [slt_niff]
  omega
theorem slt_anti {a b : St} (h1 : slt a b = false) (h2 : slt b a = false) : a = b := by
  rw [slt_niff] at *
  exact Prod.ext (by omega) (by omega)
theorem slt_iff' (a b : St) : slt a b = false ↔ ¬ (a.1 < b.1 ∨ a.1 = b.1 ∧ a.2 < b.2) := by unfold slt; exact decide_eq_false_iff_not
/-- j is the first of the first k that is below none of them -/
def Top (L : List Cp) (k j : Nat) : Prop := j < k ∧ (∀ m, m < k → slt (L[j]?.getD cz).1 (L[m]?.getD cz).1 = false) ∧ ∀ m, m < j → slt (L[m]?.getD cz).1 (L[j]?.getD cz).1 = true
theorem top_step {L : List Cp} {k j : Nat} (h : Top L k j) : Top L (k + 1) (if slt (L[j]?.getD cz).1 (L[k]?.getD cz).1 = true then k else j) := by
  obtain ⟨h1, h2, h3⟩ := h
  by_cases c : slt (L[j]?.getD cz).1 (L[k]?.getD cz).1 = true
  · rw [if_pos c]
    refine ⟨by omega, fun m hm => ?_, fun m hm => ?_⟩
    · by_cases e : m = k
      · subst e
        rw [slt_iff']; omega
      · have := h2 m (by omega)
        rw [slt_iff] at c
        rw [slt_iff'] at this ⊢
        omega
    · have := h2 m (by omega)
      rw [slt_iff] at c ⊢
      rw [slt_iff'] at this
      omega
  · rw [if_neg c]
    refine ⟨by omega, fun m hm => ?_, h3⟩
    by_cases e : m = k
    · subst e; exact Bool.eq_false_iff.2 c
    · exact h2 m (by omega)
theorem latK_top {L : List Cp} : ∀ k, k + 1 ≤ L.length → ∃ j, Top L (k + 1) j ∧ latK L (k + 1) = L[j]?.getD cz
  | 0, _ => ⟨0, ⟨by omega, fun m hm => by
      obtain rfl : m = 0 := by omega
      rw [slt_iff']; omega, fun m hm => by omega⟩, latK_one L⟩
  | k + 1, h => by
    obtain ⟨j, h1, h2⟩ := latK_top (L := L) k (by omega)
    refine ⟨_, top_step h1, ?_⟩
    rw [latK_step (by omega) (by omega), h2]
    unfold ltr
    split
    · rfl
    · rfl
theorem lats_top {L : List Cp} (h : 0 < L.length) : ∃ j, Top L L.length j ∧ lats L = L[j]?.getD cz := by
  have := @latK_top L (L.length - 1) (by omega)
  rw [show L.length - 1 + 1 = L.length by omega] at this
  exact this
theorem top_one {L : List Cp} {k i j : Nat} (h1 : Top L k i) (h2 : Top L k j) : i = j := by
  by_cases c : i < j
  · have := h2.2.2 i c
    rw [h1.2.1 j h2.1] at this
    cases this
  · by_cases d : j < i
    · have := h1.2.2 j d
      rw [h2.2.1 i h1.1] at this
      cases this
    · omega
/-- is the i-th below one of the first k? -/
def abv (L : List Cp) (i : Nat) : Nat → Bool
  | 0 => false
  | k + 1 => abv L i k || slt (L[i]?.getD cz).1 (L[k]?.getD cz).1
theorem abv_true {L : List Cp} {i : Nat} : ∀ {k}, abv L i k = true → ∃ m, m < k ∧ slt (L[i]?.getD cz).1 (L[m]?.getD cz).1 = true
  | 0, h => by cases h
  | k + 1, h => by
    rw [abv, Bool.or_eq_true] at h
    rcases h with h | h
    · obtain ⟨m, h1, h2⟩ := abv_true h
      exact ⟨m, by omega, h2⟩
    · exact ⟨k, by omega, h⟩
theorem abv_false {L : List Cp} {i : Nat} : ∀ {k}, abv L i k = false → ∀ m, m < k → slt (L[i]?.getD cz).1 (L[m]?.getD cz).1 = false
  | 0, _, m, hm => by omega
  | k + 1, h, m, hm => by
    rw [abv, Bool.or_eq_false_iff] at h
    by_cases e : m = k
    · subst e; exact h.2
    · exact abv_false h.1 m (by omega)
/-- the first that is below none is the latest -/
theorem lats_first {L : List Cp} {i : Nat} (hi : i < L.length) (h1 : ∀ m, m < i → abv L m L.length = true) (h2 : abv L i L.length = false) : lats L = L[i]?.getD cz := by
  obtain ⟨j, hj, e⟩ := lats_top (L := L) (by omega)
  rw [e]
  suffices j = i by rw [this]
  by_cases c : j < i
  · obtain ⟨m, h3, h4⟩ := abv_true (h1 j c)
    rw [hj.2.1 m h3] at h4
    cases h4
  · by_cases d : i < j
    · have := hj.2.2 i d
      rw [abv_false h2 j hj.1] at this
      cases this
    · omega
theorem lats_some {L : List Cp} (h0 : 0 < L.length) (h1 : ∀ m, m < L.length → abv L m L.length = true) : False := by
  obtain ⟨j, hj, _⟩ := lats_top h0
  obtain ⟨m, h3, h4⟩ := abv_true (h1 j hj.1)
  rw [hj.2.1 m h3] at h4
  cases h4
theorem soE_zero {c d : Cp} : soE c d = 0 ↔ cck c = 0 ∧ cck d = 0 := by
  constructor
  · intro h
    exact ⟨cks_zero _ h c (by simp), cks_zero _ h d (by simp)⟩
  · rintro ⟨h1, h2⟩
    exact cks_of _ (by intro x hx; simp at hx; rcases hx with rfl | rfl <;> assumption)
theorem soV_yes {c d : Cp} (h : soE c d = 0) : soV c d = ltr c d := if_pos h
theorem soV_no {c d : Cp} (h : soE c d ≠ 0) : soV c d = cz := if_neg h
theorem ltr_or (c d : Cp) : ltr c d = c ∨ ltr c d = d := by
  unfold ltr
  split
  · exact .inr rfl
  · exact .inl rfl
theorem ltr_ge (c d : Cp) : slt (ltr c d).1 c.1 = false ∧ slt (ltr c d).1 d.1 = false := by
  unfold ltr
  split
  · rename_i h; exact ⟨slt_as h, slt_irr _⟩
  · rename_i h; exact ⟨slt_irr _, by simpa using h⟩
theorem ltr_self (c d : Cp) : ltr (ltr c d) d = ltr c d := by
  have h := (ltr_ge c d).2
  show (if slt (ltr c d).1 d.1 = true then d else ltr c d) = ltr c d
  rw [h]
  rfl
theorem cp_ext {a b : Cp} (h : a.1 = b.1 → a.2 = b.2) (h1 : slt a.1 b.1 = false) (h2 : slt b.1 a.1 = false) : a = b := Prod.ext (slt_anti h1 h2) (h (slt_anti h1 h2))
/-- what is behind two writes hangs on both together alone -/
theorem ltr_comm (c a b : Cp) (h1 : a.1 = b.1 → a.2 = b.2) (h2 : c.1 = a.1 → c.2 = a.2) (h3 : c.1 = b.1 → c.2 = b.2) : ltr (ltr c a) b = ltr (ltr c b) a := by
  have o1 := ltr_or (ltr c a) b
  have o2 := ltr_or (ltr c b) a
  have o3 := ltr_or c a
  have o4 := ltr_or c b
  have g1 := ltr_ge (ltr c a) b
  have g2 := ltr_ge c a
  have g3 := ltr_ge (ltr c b) a
  have g4 := ltr_ge c b
  have m1 : slt (ltr (ltr c a) b).1 c.1 = false := slt_nn g1.1 g2.1
  have m2 : slt (ltr (ltr c a) b).1 a.1 = false := slt_nn g1.1 g2.2
  have m3 : slt (ltr (ltr c b) a).1 c.1 = false := slt_nn g3.1 g4.1
  have m4 : slt (ltr (ltr c b) a).1 b.1 = false := slt_nn g3.1 g4.2
  have x : ltr (ltr c a) b = c ∨ ltr (ltr c a) b = a ∨ ltr (ltr c a) b = b := by
    rcases o1 with e | e
    · rcases o3 with f | f
      · exact .inl (e.trans f)
      · exact .inr (.inl (e.trans f))
    · exact .inr (.inr e)
  have y : ltr (ltr c b) a = c ∨ ltr (ltr c b) a = b ∨ ltr (ltr c b) a = a := by
    rcases o2 with e | e
    · rcases o4 with f | f
      · exact .inl (e.trans f)
      · exact .inr (.inl (e.trans f))
    · exact .inr (.inr e)
  generalize ltr (ltr c a) b = p at *
  generalize ltr (ltr c b) a = q at *
  rcases x with rfl | rfl | rfl <;> rcases y with rfl | rfl | rfl
  all_goals first
    | rfl
    | exact cp_ext h2 m2 m3
    | exact cp_ext h2 g1.2 m3
    | exact cp_ext h3 g1.2 m3
    | exact cp_ext h3 m4 m2
    | exact (cp_ext h2 m3 m2).symm
    | exact (cp_ext h2 (by assumption) (by assumption)).symm
    | exact (cp_ext h3 (by assumption) (by assumption)).symm
    | exact (cp_ext h1 (by assumption) (by assumption)).symm
    | exact cp_ext h1 (by assumption) (by assumption)
    | exact cp_ext h2 (by assumption) (by assumption)
    | exact cp_ext h3 (by assumption) (by assumption)
    | exact cp_ext h1 g1.2 g3.2
    | exact cp_ext h2 m2 m3
    | exact (cp_ext h1 g3.2 g1.2).symm
    | exact (cp_ext h2 g3.2 m1).symm
    | exact (cp_ext h3 m4 m1).symm
    | exact cp_ext h2 m2 m3
    | exact cp_ext h3 g1.2 m3
    | exact (cp_ext h1 m4 m2).symm
    | exact cp_ext h1 g1.2 g3.2
theorem store_order (c a b : Cp) (e1 : soE c a = 0) (e2 : soE c b = 0) (h1 : a.1 = b.1 → a.2 = b.2) (h2 : c.1 = a.1 → c.2 = a.2) (h3 : c.1 = b.1 → c.2 = b.2) :
    soE (soV c a) b = 0 ∧ soE (soV c b) a = 0 ∧ soE (soV (soV c a) b) a = 0 ∧ soV (soV c b) a = soV (soV c a) b ∧ soV (soV (soV c a) b) a = soV (soV c a) b := by
  have ⟨f1, f2⟩ := soE_zero.1 e1
  have ⟨_, f3⟩ := soE_zero.1 e2
  have k1 : cck (soV c a) = 0 := by rw [soV_yes e1]; rcases ltr_or c a with e | e <;> rw [e] <;> assumption
  have k2 : cck (soV c b) = 0 := by rw [soV_yes e2]; rcases ltr_or c b with e | e <;> rw [e] <;> assumption
  have k3 : soE (soV c a) b = 0 := soE_zero.2 ⟨k1, f3⟩
  have k4 : soE (soV c b) a = 0 := soE_zero.2 ⟨k2, f2⟩
  have k5 : cck (soV (soV c a) b) = 0 := by rw [soV_yes k3]; rcases ltr_or (soV c a) b with e | e <;> rw [e] <;> assumption
  have k6 : soE (soV (soV c a) b) a = 0 := soE_zero.2 ⟨k5, f2⟩
  have q : soV (soV c b) a = soV (soV c a) b := by
    rw [soV_yes k4, soV_yes k3, soV_yes e1, soV_yes e2]
    exact (ltr_comm c a b h1 h2 h3).symm
  refine ⟨k3, k4, k6, q, ?_⟩
  rw [soV_yes k6, ← q, soV_yes k4]
  exact ltr_self _ _
theorem bal_loop (s : ByteArray) : ∀ (n i : Nat) (r : List UInt8), s.size - i = n → ByteArray.toList.loop s i r = r.reverse ++ s.data.toList.drop i := by
  intro n
  induction n with
  | zero =>
    intro i r h
    unfold ByteArray.toList.loop
    rw [if_neg (by omega), List.drop_eq_nil_of_le (by rw [Array.length_toList]; show s.size ≤ i; omega), List.append_nil]
  | succ n ih =>
    intro i r h
    have hi : i < s.data.toList.length := by rw [Array.length_toList]; show i < s.size; omega
    unfold ByteArray.toList.loop
    rw [if_pos (by omega), ih (i + 1) _ (by omega), List.reverse_cons, List.append_assoc, List.drop_eq_getElem_cons hi]
    have hd : i < s.data.size := by rw [Array.length_toList] at hi; exact hi
    have e : s.get! i = s.data.toList[i] := by
      show s.data[i]! = _
      rw [getElem!_pos s.data i hd, Array.getElem_toList]
    rw [e]
    rfl
theorem bal (s : ByteArray) : s.toList = s.data.toList := by
  unfold ByteArray.toList
  rw [bal_loop s _ 0 [] rfl]
  rfl
theorem bal_inj {s t : ByteArray} : s.toList = t.toList ↔ s = t := by
  rw [bal, bal]
  constructor
  · intro h
    cases s
    cases t
    congr 1
    exact Array.toList_inj.1 h
  · intro h; rw [h]
end Go.Proofs.Ytpkckgdpdnkbeaa
