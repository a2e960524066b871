/- A symbolic run of Go code: lists of flat things, read only or ours and growing. -/
import Derived.Test.YtpkckgdpdnkbeaaZg
import Derived.Maps.AppendAt
namespace Go.Proofs.Ytpkckgdpdnkbeaa
open Go.RowKit
/-- the kinds of a flat type's cells -/
def kindsF (P : Program) (rec : TypeId → Option (List LK)) : List Field → Nat → Option (List LK)
  | [], _ => some []
  | f :: fs, off => match rec f.type with
    | some ks => bif Nat.beq f.offset off && Nat.beq (P.cellsOf f.type) ks.length then (match kindsF P rec fs (off + ks.length) with | some l => some (ks ++ l) | none => none) else none
    | none => none
def kindsOf (P : Program) : Nat → TypeId → Option (List LK)
  | 0, _ => none
  | n + 1, t => match P.underlying t with
    | some (.int k) => some [.kInt k]
    | some .string => some [.kStr]
    | some .bool => some [.kBool]
    | some (.struct ⟨fs⟩) => (match kindsF P (kindsOf P n) fs 0 with
      | some l => bif Nat.beq (P.cellsOf t) l.length then some l else none
      | none => none)
    | _ => none
/-- are they cells of these kinds? -/
def fits : List LK → List Value → Bool
  | [], [] => true
  | .kInt .i64 :: ks, .int .i64 _ :: vs => fits ks vs
  | .kInt .u64 :: ks, .int .u64 _ :: vs => fits ks vs
  | .kInt .u8 :: ks, .int .u8 _ :: vs => fits ks vs
  | .kStr :: ks, .string _ :: vs => fits ks vs
  | .kBool :: ks, .bool _ :: vs => fits ks vs
  | _, _ => false
theorem fits_norm {sh : List LK} {vs : List Value} : fits sh vs = true → norm sh vs = vs := by
  fun_induction fits sh vs <;> intro h <;> first | rfl | cases h | (rename_i ih; simp [norm, hdV, tlV, intV, strV, boolV, ih h])
/-- records out of cells -/
def chunk (cs : List Value) (off sz : Nat) : Nat → List (List Value)
  | 0 => []
  | n + 1 => (cs.drop off).take sz :: chunk cs (off + sz) sz n
theorem chunk_at (cs : List Value) (sz : Nat) : ∀ (n off j : Nat), j < n → (chunk cs off sz n)[j]? = some ((cs.drop (off + j * sz)).take sz)
  | n + 1, off, 0, _ => by simp [chunk]
  | n + 1, off, j + 1, h => by
    rw [chunk, List.getElem?_cons_succ, chunk_at cs sz n (off + sz) j (by omega), Nat.add_mul]
    congr 3
    omega
def fitsAll (sh : List LK) : List (List Value) → Bool
  | [] => true
  | r :: l => fits sh r && fitsAll sh l
theorem fitsAll_at {sh : List LK} : ∀ {l : List (List Value)} {j : Nat} {r : List Value}, fitsAll sh l = true → l[j]? = some r → norm sh r = r
  | [], _, _, _, h => by simp at h
  | x :: l, 0, r, h, e => by simp at e; subst e; simp only [fitsAll, Bool.and_eq_true] at h; exact fits_norm h.1
  | x :: l, j + 1, r, h, e => by simp only [fitsAll, Bool.and_eq_true] at h; exact fitsAll_at h.2 (by simpa using e)
def rowsOf (H : List AObj) (sh : List LK) (x : Value) (k : Nat → (Nat → List Value) → Out) : Out :=
  match x with
  | .slice (some ⟨i, off, sp⟩) len _ => (match nthL H i with
    | some (.recs sh' n g) => (match shEq sh' sh && Nat.beq off 0 with
      | true => (match sp with
        | some r => .ask (len + r ≤ n ∧ len ≤ 140737488355328) (k len fun j => g (j + r))
        | none => .bad)
      | false => .bad)
    | some (.row _ sh' n g) => (match shEq sh' sh && Nat.beq off 0 with
      | true => (match sp with
        | some r => .ask (len + r ≤ n ∧ len ≤ 140737488355328) (k len fun j => g (j + r))
        | none => .bad)
      | false => .bad)
    | some (.cells _ cs) => (match sp with
      | none => (match Nat.ble (off + len * sh.length) cs.length && Nat.ble len 140737488355328 && fitsAll sh (chunk cs off sh.length len) with
        | true => k len fun j => (nthL (chunk cs off sh.length len) j).getD []
        | false => .bad)
      | some _ => .bad)
    | _ => .bad)
  | .slice none len cap => (match Nat.beq cap 0 with | true => k len fun _ => [] | false => .bad)
  | _ => .bad
theorem flat_congr (sh : List LK) {g f : Nat → List Value} : ∀ n, (∀ k, k < n → g k = f k) → flat sh n g = flat sh n f
  | 0, _ => rfl
  | n + 1, h => by rw [flat_succ, flat_succ, flat_congr sh n fun k hk => h k (by omega), h n (by omega)]
theorem flat_join (sh : List LK) (g f : Nat → List Value) (n : Nat) : ∀ m, flat sh n g ++ flat sh m f = flat sh (n + m) fun k => bif Nat.blt k n then g k else f (k - n)
  | 0 => by
    rw [show flat sh 0 f = [] from rfl, List.append_nil]
    refine flat_congr sh n fun k hk => ?_
    have : Nat.blt k n = true := by rw [Nat.blt_eq]; exact hk
    rw [this]
    rfl
  | m + 1 => by
    rw [flat_succ, ← List.append_assoc, flat_join sh g f n m, show n + (m + 1) = n + m + 1 by omega, flat_succ]
    have : Nat.blt (n + m) n = false := by
      cases h : Nat.blt (n + m) n with
      | false => rfl
      | true => rw [Nat.blt_eq] at h; omega
    rw [this, Nat.add_sub_cancel_left]
    rfl
def RowAt (w : World) (l : Loc) (sh : List LK) (n : Nat) (g : Nat → List Value) : Prop := (∀ b s z, l = some (b, s, z) → z.1 = sh.length ∧ b < w.heap.size) ∧ (n = 0 ∨ ∃ b s q, l = some (b, s, sh.length, q) ∧ ∀ k, k < n → Lies w b (s + k * sh.length) (norm sh (g k)))
theorem rowsOf_ok {Φ : Lf} {base : Nat} {w0 w : World} {ρ : Ren} {H : List AObj} {sh : List LK} {x u : Value} {k : Nat → (Nat → List Value) → Out}
    (h : (rowsOf H sh x k).sat Φ) (hc : HC base w0 ρ H w) (hr : Rn ρ x u) :
    ∃ len g l, (k len g).sat Φ ∧ (RowAt w l sh len g ∧ len ≤ 140737488355328) ∧ ∀ ρ' i, ρ' i = some l → Rn ρ' (.slice (some ⟨i, 0, some 0⟩) len len) u := by
  have none_ok : ∀ g : Nat → List Value, RowAt w none sh 0 g := fun g => ⟨fun b s z e => (by cases e), .inl rfl⟩
  have go : ∀ (i b s : Nat) (z : Nat × Nat) (r n len c' : Nat) (g : Nat → List Value), ρ i = some (some (b, s, z)) → z.1 = sh.length → (n = 0 ∨ ∀ k, k < n → Lies w b (s + k * sh.length) (norm sh (g k))) → len + r ≤ n → len ≤ c' → len ≤ 140737488355328 → (k len fun j => g (j + r)).sat Φ →
      u = .slice (some ⟨b, placeOf s z (some r) + 0, none⟩) len c' → ∃ len g l, (k len g).sat Φ ∧ (RowAt w l sh len g ∧ len ≤ 140737488355328) ∧ ∀ ρ' i, ρ' i = some l → Rn ρ' (.slice (some ⟨i, 0, some 0⟩) len len) u := fun i b s z r n len c' g hm hz h2 hle hlc hbd h hu => by
    refine ⟨len, _, some (b, s + r * sh.length, sh.length, c'), h, ⟨⟨fun b' s' z' e => (by cases e; exact ⟨rfl, hc.lt i b s _ hm⟩), ?_⟩, hbd⟩, fun ρ' i' e => ?_⟩
    · rcases h2 with h2 | h2
      · exact .inl (by omega)
      · refine .inr ⟨b, _, c', rfl, fun j hj => ?_⟩
        have q2 := h2 (j + r) (by omega)
        rw [Nat.add_mul, Nat.add_comm (j * _), ← Nat.add_assoc] at q2
        exact q2
    · have := Rn.sliceR (ρ := ρ') (i := i') (o := 0) (r := 0) len len c' e (Nat.le_refl _) hlc (by simp)
      rw [hu]
      simpa [placeOf, hz] using this
  unfold rowsOf at h
  split at h
  · rename_i i off sp len cap
    split at h
    · rename_i sh' n g ho
      rw [nthL_eq] at ho
      split at h
      · rename_i hb
        rw [Bool.and_eq_true, Nat.beq_eq] at hb
        obtain ⟨hsh, rfl⟩ := hb
        have := shEq_eq hsh
        subst this
        split at h
        · rename_i r
          obtain ⟨⟨hle, hbd⟩, h⟩ := h
          obtain ⟨l0, g1, g0, g2⟩ := hc.obj i _ ho
          rcases hr.sliceA with ⟨b, s, z, c', hm, hlc, hcc, _, _, hu⟩ | ⟨rfl, rfl, ad, rfl⟩
          · rw [hm] at g1
            cases g1
            refine go i b s z r n len c' g hm (g0 b s z rfl) ?_ hle (by omega) hbd h hu
            rcases g2 with g2 | ⟨b', s', q', e, g2⟩
            · exact .inl g2
            · cases e; exact .inr g2
          · exact ⟨0, _, none, h, ⟨none_ok _, by omega⟩, fun ρ' i' _ => .sliceE rfl rfl⟩
        · exact h.elim
      · exact h.elim
    · rename_i e0 sh' n g ho
      rw [nthL_eq] at ho
      split at h
      · rename_i hb
        rw [Bool.and_eq_true, Nat.beq_eq] at hb
        obtain ⟨hsh, rfl⟩ := hb
        have := shEq_eq hsh
        subst this
        split at h
        · rename_i r
          obtain ⟨⟨hle, hbd⟩, h⟩ := h
          obtain ⟨l0, g1, g0, g2⟩ := hc.obj i _ ho
          rcases hr.sliceA with ⟨b, s, z, c', hm, hlc, hcc, _, _, hu⟩ | ⟨rfl, rfl, ad, rfl⟩
          · rw [hm] at g1
            cases g1
            obtain ⟨rfl, hz⟩ := g0 b s z rfl
            refine go i b 0 z r n len c' g hm hz (.inr fun j hj => ?_) hle (by omega) hbd h hu
            obtain ⟨z1, z2⟩ := z
            rw [Nat.zero_add]
            exact row_lies g2 hj
          · exact ⟨0, _, none, h, ⟨none_ok _, by omega⟩, fun ρ' i' _ => .sliceE rfl rfl⟩
        · exact h.elim
      · exact h.elim
    · rename_i T cs ho
      rw [nthL_eq] at ho
      split at h
      · split at h
        · rename_i hb
          rw [Bool.and_eq_true, Bool.and_eq_true, Nat.ble_eq, Nat.ble_eq] at hb
          obtain ⟨⟨hle, hbd⟩, hfit⟩ := hb
          obtain ⟨b0, us, g1, g2, g3, g4⟩ := hc.obj i _ ho
          rcases hr.sliceA with ⟨b, s, z, c', hm, hlc, hcc, hn, _, rfl⟩ | ⟨rfl, rfl, ad, rfl⟩
          · rw [hm] at g1
            cases g1
            have := hn rfl
            subst this
            refine ⟨len, _, some (b0, off, sh.length, c'), h, ⟨⟨fun b' s' z' e => (by cases e; exact ⟨rfl, hc.lt i b0 0 _ hm⟩), .inr ⟨b0, off, c', rfl, fun j hj => ?_⟩⟩, hbd⟩, fun ρ' i' e => ?_⟩
            · intro q u hu
              have hat := chunk_at cs sh.length len off j hj
              have hn := fitsAll_at hfit hat
              have hg : (nthL (chunk cs off sh.length len) j).getD [] = (cs.drop (off + j * sh.length)).take sh.length := by rw [nthL_eq, hat]; rfl
              have hu0 : (norm sh ((nthL (chunk cs off sh.length len) j).getD []))[q]? = some u := hu
              rw [hg] at hu0
              have hu := hu0
              rw [hn, List.getElem?_take] at hu
              split at hu
              · rename_i hq
                rw [List.getElem?_drop] at hu
                obtain ⟨u', hu', hru⟩ := g3.get hu
                have hcl : cleanS u = true := allB_at (norm_clean sh _) q u hu0
                rw [(cleanS_Rn hcl).1 hru] at hu'
                simp [World.cell?, g4, hu']
              · cases hu
            · have := Rn.sliceR (ρ := ρ') (i := i') (o := 0) (r := 0) len len c' e (Nat.le_refl _) hlc (by simp)
              simpa [placeOf] using this
          · exact ⟨0, _, none, h, ⟨none_ok _, by omega⟩, fun ρ' i' _ => .sliceE rfl rfl⟩
        · exact h.elim
      · exact h.elim
    · exact h.elim
  · rename_i len cap
    split at h
    · rename_i hb
      rw [Nat.beq_eq] at hb
      subst hb
      have hl : len = 0 := by cases hr <;> omega
      subst hl
      exact ⟨0, _, none, h, ⟨none_ok _, by omega⟩, fun ρ' i' _ => by cases hr <;> exact .sliceE rfl rfl⟩
    · exact h.elim
  · exact h.elim
/-- A LIST OF OURS HAS GROWN: where it lay, or elsewhere; at a place that is laid for it. -/
theorem HC.growAt {base : Nat} {w0 w w' : World} {ρ : Ren} {H H1 : List AObj} (h : HC base w0 ρ H w) {row : Option Nat} {e n id : Nat} {sh : List LK} {g : Nat → List Value} {l' : Loc} (hl : H1.length = H.length) (hid : id < H.length) (hno : ρ id = none)
    (hH : ∀ (j : Nat) o, H1[j]? = some o → o = .gone ∨ H[j]? = some o ∧ ∀ b s z, ρ j = some (some (b, s, z)) → some b ≠ row) (hrow : ∀ b, row = some b → base ≤ b) (hg : w.grownBy w' row)
    (hown : w'.ownsRow base e sh.length (rowV l' n) n (flat sh n g)) (hl' : ∀ b s z, l' = some (b, s, z) → s = 0 ∧ z.1 = sh.length ∧ b < w'.heap.size ∧ (some b = row ∨ w.heap.size ≤ b)) :
    HC base w0 (upd ρ id l') (H1.set id (.row e sh n g)) w' ∧ RLe ρ (upd ρ id l') := by
  have hle := upd_le (l := l') hno
  have hb : Below base w w' := ⟨hg.os, hg.tape, hg.output, hg.size, fun k hk => hg.block k (Nat.lt_of_lt_of_le hk h.floor) fun e => by have := hrow k e.symm; omega⟩
  have hnew : upd ρ id l' id = some l' := if_pos rfl
  have hold : ∀ i, i ≠ id → upd ρ id l' i = ρ i := fun i hi => if_neg hi
  have get : ∀ (j : Nat) o, (H1.set id (AObj.row e sh n g))[j]? = some o → (j ≠ id ∧ H1[j]? = some o) ∨ (j = id ∧ o = .row e sh n g) := fun j o ho => by
    by_cases hj : j = id
    · subst hj
      rw [List.getElem?_set_self (by omega)] at ho
      cases ho
      exact .inr ⟨rfl, rfl⟩
    · rw [List.getElem?_set_ne (Ne.symm hj)] at ho
      exact .inl ⟨hj, ho⟩
  refine ⟨⟨h.below.trans hb, Nat.le_trans h.floor hg.size, ?_, ?_, ?_, ?_⟩, hle⟩
  · intro i o ho
    rcases get i o ho with ⟨hi, ho⟩ | ⟨rfl, rfl⟩
    · rcases hH i o ho with rfl | ⟨h1, h2⟩
      · trivial
      · exact ((h.obj i o h1).kept fun b s z e => hg.block b (h.lt i b s z e) (h2 b s z e)).mono hle
    · exact ⟨l', hnew, fun b s z e => ⟨(hl' b s z e).1, (hl' b s z e).2.1⟩, hown⟩
  · intro i l e
    rw [List.length_set, hl]
    by_cases hi : i = id
    · omega
    · rw [hold i hi] at e; exact h.dom i l e
  · intro i b s z e
    by_cases hi : i = id
    · subst hi; rw [hnew] at e; cases e; exact (hl' b s z rfl).2.2.1
    · rw [hold i hi] at e; exact Nat.lt_of_lt_of_le (h.lt i b s z e) hg.size
  · intro i j o1 b s z c1 s' z' o hi ho1 hj hgn e1 e2 hij hbc
    subst hbc
    rcases get i o1 hi with ⟨hi1, hi⟩ | ⟨rfl, rfl⟩
    · rw [hold i hi1] at e1
      rcases hH i o1 hi with rfl | ⟨hi, hi2⟩
      · cases ho1
      · rcases get j o hj with ⟨hj1, hj⟩ | ⟨rfl, rfl⟩
        · rw [hold j hj1] at e2
          rcases hH j o hj with rfl | ⟨hj, _⟩
          · exact hgn rfl
          · exact h.apart i j o1 b s z b s' z' o hi ho1 hj hgn e1 e2 hij rfl
        · rw [hnew] at e2
          cases e2
          rcases (hl' b s' z' rfl).2.2.2 with hr | hr
          · exact hi2 b s z e1 hr
          · have := h.lt i b s z e1; omega
    · rw [hnew] at e1
      cases e1
      rcases get j o hj with ⟨hj1, hj⟩ | ⟨rfl, rfl⟩
      · rw [hold j hj1] at e2
        rcases hH j o hj with rfl | ⟨hj, hj2⟩
        · exact hgn rfl
        · rcases (hl' b s z rfl).2.2.2 with hr | hr
          · exact hj2 b s' z' e2 hr
          · have := h.lt j b s' z' e2; omega
      · exact hij rfl
end Go.Proofs.Ytpkckgdpdnkbeaa
