/- A symbolic run of Go code: lists of flat things, read only or ours and growing. -/
import Derived.Test.YtcplbpnpcmgjfabYr
namespace Go.Proofs.Ytcplbpnpcmgjfab
open Go.RowKit
/-- the kinds of a flat type's cells -/
def kindsF (P : Program) (rec : TypeId → Option (List LK)) : List Field → Nat → Option (List LK)
  | [], _ => some []
  | f :: fs, off => match rec f.type with
    | some ks => bif Nat.beq f.offset off && Nat.beq (P.cellsOf f.type) ks.length then (match kindsF P rec fs (off + ks.length) with | some l => some (ks ++ l) | none => none) else none
    | none => none
def kindsOf (P : Program) : Nat → TypeId → Option (List LK)
  | 0, _ => none
  | n + 1, t => match P.underlying t with
    | some (.int k) => some [.kInt k]
    | some .string => some [.kStr]
    | some .bool => some [.kBool]
    | some (.struct ⟨fs⟩) => (match kindsF P (kindsOf P n) fs 0 with
      | some l => bif Nat.beq (P.cellsOf t) l.length then some l else none
      | none => none)
    | _ => none
/-- are they cells of these kinds? -/
def fits : List LK → List Value → Bool
  | [], [] => true
  | .kInt .i64 :: ks, .int .i64 _ :: vs => fits ks vs
  | .kInt .u64 :: ks, .int .u64 _ :: vs => fits ks vs
  | .kInt .u8 :: ks, .int .u8 _ :: vs => fits ks vs
  | .kStr :: ks, .string _ :: vs => fits ks vs
  | .kBool :: ks, .bool _ :: vs => fits ks vs
  | _, _ => false
theorem fits_norm {sh : List LK} {vs : List Value} : fits sh vs = true → norm sh vs = vs := by
  fun_induction fits sh vs <;> intro h <;> first | rfl | cases h | (rename_i ih; simp [norm, hdV, tlV, intV, strV, boolV, ih h])
/-- records out of cells -/
def chunk (cs : List Value) (off sz : Nat) : Nat → List (List Value)
  | 0 => []
  | n + 1 => (cs.drop off).take sz :: chunk cs (off + sz) sz n
theorem chunk_at (cs : List Value) (sz : Nat) : ∀ (n off j : Nat), j < n → (chunk cs off sz n)[j]? = some ((cs.drop (off + j * sz)).take sz)
  | n + 1, off, 0, _ => by simp [chunk]
  | n + 1, off, j + 1, h => by
    rw [chunk, List.getElem?_cons_succ, chunk_at cs sz n (off + sz) j (by omega), Nat.add_mul]
    congr 3
    omega
def fitsAll (sh : List LK) : List (List Value) → Bool
  | [] => true
  | r :: l => fits sh r && fitsAll sh l
theorem fitsAll_at {sh : List LK} : ∀ {l : List (List Value)} {j : Nat} {r : List Value}, fitsAll sh l = true → l[j]? = some r → norm sh r = r
  | [], _, _, _, h => by simp at h
  | x :: l, 0, r, h, e => by simp at e; subst e; simp only [fitsAll, Bool.and_eq_true] at h; exact fits_norm h.1
  | x :: l, j + 1, r, h, e => by simp only [fitsAll, Bool.and_eq_true] at h; exact fitsAll_at h.2 (by simpa using e)
def rowsOf (H : List AObj) (sh : List LK) (x : Value) (k : Nat → Nat → (Nat → List Value) → Out) : Out :=
  match x with
  | .slice (some ⟨i, off, sp⟩) len cap => (match nthL H i with
    | some (.recs sh' n g) => (match shEq sh' sh && Nat.beq off 0 with
      | true => (match sp with
        | none => .ask (len ≤ n ∧ len ≤ 140737488355328) (k len cap g)
        | some r => .ask (r + len ≤ n ∧ len ≤ 140737488355328) (k len cap fun j => g (r + j)))
      | false => .bad)
    | some (.cells _ cs) => (match sp with
      | none => (match Nat.ble (off + len * sh.length) cs.length && Nat.ble len 140737488355328 && fitsAll sh (chunk cs off sh.length len) with
        | true => k len cap fun j => (nthL (chunk cs off sh.length len) j).getD []
        | false => .bad)
      | some _ => .bad)
    | some (.row _ sh' n _ g) => (match shEq sh' sh && Nat.beq off 0 with
      | true => (match sp with
        | none => .ask (len ≤ n ∧ len ≤ 140737488355328) (k len cap g)
        | some _ => .bad)
      | false => .bad)
    | _ => .bad)
  | .slice none len cap => (match Nat.beq cap 0 with | true => k len cap fun _ => [] | false => .bad)
  | _ => .bad
theorem flat_succ (sh : List LK) (n : Nat) (g : Nat → List Value) : flat sh (n + 1) g = flat sh n g ++ norm sh (g n) := by
  unfold flat
  rw [List.range_succ, List.flatMap_append]
  simp
theorem flat_len (sh : List LK) (g : Nat → List Value) : ∀ n, (flat sh n g).length = n * sh.length
  | 0 => by simp [flat]
  | n + 1 => by rw [flat_succ, List.length_append, flat_len sh g n, norm_len, Nat.add_mul]; omega
theorem flat_at (sh : List LK) (g : Nat → List Value) {k q : Nat} {u : Value} (hu : (norm sh (g k))[q]? = some u) : ∀ n, k < n → (flat sh n g)[k * sh.length + q]? = some u
  | 0, h => by omega
  | n + 1, h => by
    have hq : q < sh.length := by have := (List.getElem?_eq_some_iff.1 hu).1; rw [norm_len] at this; exact this
    rw [flat_succ, List.getElem?_append, flat_len]
    by_cases e : k = n
    · subst e
      rw [if_neg (by omega), Nat.add_sub_cancel_left]
      exact hu
    · have : k * sh.length + q < n * sh.length := by
        have h1 : (k + 1) * sh.length ≤ n * sh.length := Nat.mul_le_mul_right _ (by omega)
        rw [Nat.add_mul] at h1
        omega
      rw [if_pos this]
      exact flat_at sh g hu n (by omega)
theorem flat_congr (sh : List LK) {g f : Nat → List Value} : ∀ n, (∀ k, k < n → g k = f k) → flat sh n g = flat sh n f
  | 0, _ => rfl
  | n + 1, h => by rw [flat_succ, flat_succ, flat_congr sh n fun k hk => h k (by omega), h n (by omega)]
theorem flat_join (sh : List LK) (g f : Nat → List Value) (n : Nat) : ∀ m, flat sh n g ++ flat sh m f = flat sh (n + m) fun k => bif Nat.blt k n then g k else f (k - n)
  | 0 => by
    rw [show flat sh 0 f = [] from rfl, List.append_nil]
    refine flat_congr sh n fun k hk => ?_
    have : Nat.blt k n = true := by rw [Nat.blt_eq]; exact hk
    rw [this]
    rfl
  | m + 1 => by
    rw [flat_succ, ← List.append_assoc, flat_join sh g f n m, show n + (m + 1) = n + m + 1 by omega, flat_succ]
    have : Nat.blt (n + m) n = false := by
      cases h : Nat.blt (n + m) n with
      | false => rfl
      | true => rw [Nat.blt_eq] at h; omega
    rw [this, Nat.add_sub_cancel_left]
    rfl
theorem row_lies {w : World} {base e b z n c k : Nat} {sh : List LK} {g : Nat → List Value} (h : w.ownsRow base e sh.length (rowV (some (b, 0, z)) n c) n (flat sh n g)) (hk : k < n) : Lies w b (k * sh.length) (norm sh (g k)) := fun q u hu => by
  have := h.cells (g := b) rfl (k * sh.length + q) u (flat_at sh g hu n hk)
  rw [addr_add, Nat.zero_add] at this
  exact this
def RowAt (w : World) (l : Loc) (sh : List LK) (n : Nat) (g : Nat → List Value) : Prop := (∀ b s z, l = some (b, s, z) → z = sh.length ∧ b < w.heap.size) ∧ (n = 0 ∨ ∃ b s, l = some (b, s, sh.length) ∧ ∀ k, k < n → Lies w b (s + k * sh.length) (norm sh (g k)))
theorem rowsOf_ok {Φ : Lf} {base : Nat} {w0 w : World} {ρ : Ren} {H : List AObj} {sh : List LK} {x u : Value} {k : Nat → Nat → (Nat → List Value) → Out}
    (h : (rowsOf H sh x k).sat Φ) (hc : HC base w0 ρ H w) (hr : Rn ρ x u) :
    ∃ len cap g l, (k len cap g).sat Φ ∧ (RowAt w l sh len g ∧ len ≤ 140737488355328) ∧ ∀ ρ' i, ρ' i = some l → Rn ρ' (.slice (some ⟨i, 0, none⟩) len cap) u := by
  have none_ok : ∀ g : Nat → List Value, RowAt w none sh 0 g := fun g => ⟨fun b s z e => (by cases e), .inl rfl⟩
  unfold rowsOf at h
  split at h
  · rename_i i off sp len cap
    split at h
    · rename_i sh' n g ho
      rw [nthL_eq] at ho
      split at h
      · rename_i hb
        rw [Bool.and_eq_true, Nat.beq_eq] at hb
        obtain ⟨hsh, rfl⟩ := hb
        have := shEq_eq hsh
        subst this
        obtain ⟨l0, g1, g0, g2⟩ := hc.obj i _ ho
        rcases hr.sliceA with ⟨b, s, z, hm, hlc, rfl⟩ | ⟨rfl, rfl, ad, rfl⟩
        · rw [hm] at g1
          cases g1
          have hz := g0 b s z rfl
          subst hz
          have go : ∀ r, r + len ≤ n → RowAt w (some (b, s + r * sh'.length, sh'.length)) sh' len (fun j => g (r + j)) := fun r hle => by
            refine ⟨fun b' s' z' e => (by cases e; exact ⟨rfl, hc.lt i b s _ hm⟩), ?_⟩
            rcases g2 with g2 | ⟨b', s', e, g2⟩
            · exact .inl (by omega)
            · cases e
              refine .inr ⟨b, s + r * sh'.length, rfl, fun j hj => ?_⟩
              have q2 := g2 (r + j) (by omega)
              rw [Nat.add_mul, ← Nat.add_assoc] at q2
              exact q2
          split at h
          · obtain ⟨⟨hle, hbd⟩, h⟩ := h
            refine ⟨len, cap, _, some (b, s, sh'.length), h, ⟨by have := go 0 (by omega); simpa using this, hbd⟩, fun ρ' i' e => ?_⟩
            have := Rn.slice (ρ := ρ') (i := i') (o := 0) len cap e hlc
            simpa [placeOf] using this
          · rename_i r
            obtain ⟨⟨hle, hbd⟩, h⟩ := h
            refine ⟨len, cap, _, some (b, s + r * sh'.length, sh'.length), h, ⟨go r hle, hbd⟩, fun ρ' i' e => ?_⟩
            have := Rn.slice (ρ := ρ') (i := i') (o := 0) len cap e hlc
            simpa [placeOf] using this
        · split at h
          · exact ⟨0, 0, _, none, h.2, ⟨none_ok _, by omega⟩, fun ρ' i' _ => .sliceE rfl rfl⟩
          · exact ⟨0, 0, _, none, h.2, ⟨none_ok _, by omega⟩, fun ρ' i' _ => .sliceE rfl rfl⟩
      · exact h.elim
    · rename_i T cs ho
      rw [nthL_eq] at ho
      split at h
      · split at h
        · rename_i hb
          rw [Bool.and_eq_true, Bool.and_eq_true, Nat.ble_eq, Nat.ble_eq] at hb
          obtain ⟨⟨hle, hbd⟩, hfit⟩ := hb
          obtain ⟨b0, us, g1, g2, g3, g4⟩ := hc.obj i _ ho
          rcases hr.sliceA with ⟨b, s, z, hm, hlc, rfl⟩ | ⟨rfl, rfl, ad, rfl⟩
          · rw [hm] at g1
            cases g1
            refine ⟨len, cap, _, some (b0, off, sh.length), h, ⟨⟨fun b' s' z' e => (by cases e; exact ⟨rfl, hc.lt i b0 0 _ hm⟩), .inr ⟨b0, off, rfl, fun j hj => ?_⟩⟩, hbd⟩, fun ρ' i' e => ?_⟩
            · intro q u hu
              have hat := chunk_at cs sh.length len off j hj
              have hn := fitsAll_at hfit hat
              have hg : (nthL (chunk cs off sh.length len) j).getD [] = (cs.drop (off + j * sh.length)).take sh.length := by rw [nthL_eq, hat]; rfl
              have hu0 : (norm sh ((nthL (chunk cs off sh.length len) j).getD []))[q]? = some u := hu
              rw [hg] at hu0
              have hu := hu0
              rw [hn, List.getElem?_take] at hu
              split at hu
              · rename_i hq
                rw [List.getElem?_drop] at hu
                obtain ⟨u', hu', hru⟩ := g3.get hu
                have hcl : cleanS u = true := allB_at (norm_clean sh _) q u hu0
                rw [(cleanS_Rn hcl).1 hru] at hu'
                simp [World.cell?, g4, hu']
              · cases hu
            · have := Rn.slice (ρ := ρ') (i := i') (o := 0) len cap e hlc
              simpa [placeOf] using this
          · exact ⟨0, 0, _, none, h, ⟨none_ok _, by omega⟩, fun ρ' i' _ => .sliceE rfl rfl⟩
        · exact h.elim
      · exact h.elim
    · rename_i e0 sh' n c0 g ho
      rw [nthL_eq] at ho
      split at h
      · rename_i hb
        rw [Bool.and_eq_true, Nat.beq_eq] at hb
        obtain ⟨hsh, rfl⟩ := hb
        have := shEq_eq hsh
        subst this
        split at h
        · obtain ⟨⟨hle, hbd⟩, h⟩ := h
          obtain ⟨l0, g1, g0, g2⟩ := hc.obj i _ ho
          rcases hr.sliceA with ⟨b, s, z, hm, hlc, rfl⟩ | ⟨rfl, rfl, ad, rfl⟩
          · rw [hm] at g1
            cases g1
            obtain ⟨rfl, rfl⟩ := g0 b s z rfl
            refine ⟨len, cap, _, some (b, 0, sh'.length), h, ⟨⟨fun b' s' z' e => (by cases e; exact ⟨rfl, hc.lt i b 0 _ hm⟩), .inr ⟨b, 0, rfl, fun j hj => ?_⟩⟩, hbd⟩, fun ρ' i' e => ?_⟩
            · rw [Nat.zero_add]
              exact row_lies g2 (by omega)
            · have := Rn.slice (ρ := ρ') (i := i') (o := 0) len cap e hlc
              simpa [placeOf] using this
          · exact ⟨0, 0, _, none, h, ⟨none_ok _, by omega⟩, fun ρ' i' _ => .sliceE rfl rfl⟩
        · exact h.elim
      · exact h.elim
    · exact h.elim
  · rename_i len cap
    split at h
    · rename_i hb
      rw [Nat.beq_eq] at hb
      subst hb
      have hl : len = 0 := by cases hr <;> omega
      subst hl
      exact ⟨0, 0, _, none, h, ⟨none_ok _, by omega⟩, fun ρ' i' _ => by cases hr <;> exact .sliceE rfl rfl⟩
    · exact h.elim
  · exact h.elim
theorem OC.kept {base : Nat} {ρ : Ren} {w w' : World} {i : Nat} {o : AObj} (h : OC base ρ w i o) (hk : ∀ b s z, ρ i = some (some (b, s, z)) → w'.heap[b]? = w.heap[b]?) : OC base ρ w' i o := by
  cases o with
  | gone => trivial
  | cells T cs =>
    obtain ⟨b, us, h1, h2, h3, h4⟩ := h
    exact ⟨b, us, h1, h2, h3, (hk b 0 0 h1).trans h4⟩
  | recs sh m f =>
    obtain ⟨l, h1, h0, h2⟩ := h
    refine ⟨l, h1, h0, ?_⟩
    rcases h2 with h2 | ⟨b, s, rfl, h2⟩
    · exact .inl h2
    · refine .inr ⟨b, s, rfl, fun j hj q u hu => ?_⟩
      rw [← h2 j hj q u hu]
      exact World.cell?_of_block (w := w) (hk b s _ h1)
  | row e sh m c f =>
    obtain ⟨l, h1, h0, h2⟩ := h
    refine ⟨l, h1, h0, ownsRow_kept h2 fun b hb => ?_⟩
    obtain ⟨s, z, rfl⟩ := rowV_block hb
    exact hk b s z h1
/-- A LIST OF OURS HAS GROWN: where it lay, or elsewhere. -/
theorem HC.grow {base : Nat} {w0 w w' : World} {ρ : Ren} {H H1 : List AObj} (h : HC base w0 ρ H w) {row : Option Nat} {e n c : Nat} {sh : List LK} {g : Nat → List Value} {l' : Loc} (hl : H1.length = H.length)
    (hH : ∀ (j : Nat) o, H1[j]? = some o → o = .gone ∨ H[j]? = some o ∧ ∀ b s z, ρ j = some (some (b, s, z)) → some b ≠ row) (hrow : ∀ b, row = some b → base ≤ b) (hg : w.grownBy w' row)
    (hown : w'.ownsRow base e sh.length (rowV l' n c) n (flat sh n g)) (hl' : ∀ b s z, l' = some (b, s, z) → s = 0 ∧ z = sh.length ∧ b < w'.heap.size ∧ (some b = row ∨ w.heap.size ≤ b)) :
    HC base w0 (upd ρ H.length l') (H1 ++ [.row e sh n c g]) w' ∧ RLe ρ (upd ρ H.length l') := by
  have hno : ρ H.length = none := by
    cases e : ρ H.length with
    | none => rfl
    | some l => exact absurd (h.dom _ _ e) (by omega)
  have hle := upd_le (l := l') hno
  have hb : Below base w w' := ⟨hg.os, hg.tape, hg.output, hg.size, fun k hk => hg.block k (Nat.lt_of_lt_of_le hk h.floor) fun e => by have := hrow k e.symm; omega⟩
  have hnew : upd ρ H.length l' H.length = some l' := if_pos rfl
  have hold : ∀ i, i ≠ H.length → upd ρ H.length l' i = ρ i := fun i hi => if_neg hi
  have get : ∀ (j : Nat) o, (H1 ++ [AObj.row e sh n c g])[j]? = some o → (j < H.length ∧ H1[j]? = some o) ∨ (j = H.length ∧ o = .row e sh n c g) := fun j o ho => by
    rw [List.getElem?_append] at ho
    split at ho
    · exact .inl ⟨by omega, ho⟩
    · have hj : j = H.length := by
        rcases Nat.lt_or_ge H.length j with hlt | hge
        · rw [List.getElem?_eq_none (by simp; omega)] at ho; cases ho
        · omega
      subst hj
      rw [hl, Nat.sub_self] at ho
      cases ho
      exact .inr ⟨rfl, rfl⟩
  refine ⟨⟨h.below.trans hb, Nat.le_trans h.floor hg.size, ?_, ?_, ?_, ?_⟩, hle⟩
  · intro i o ho
    rcases get i o ho with ⟨hi, ho⟩ | ⟨rfl, rfl⟩
    · rcases hH i o ho with rfl | ⟨h1, h2⟩
      · trivial
      · exact ((h.obj i o h1).kept fun b s z e => hg.block b (h.lt i b s z e) (h2 b s z e)).mono hle
    · exact ⟨l', hnew, fun b s z e => ⟨(hl' b s z e).1, (hl' b s z e).2.1⟩, hown⟩
  · intro i l e
    rw [List.length_append, hl]
    show i < H.length + 1
    by_cases hi : i = H.length
    · omega
    · rw [hold i hi] at e; have := h.dom i l e; omega
  · intro i b s z e
    by_cases hi : i = H.length
    · subst hi; rw [hnew] at e; cases e; exact (hl' b s z rfl).2.2.1
    · rw [hold i hi] at e; exact Nat.lt_of_lt_of_le (h.lt i b s z e) hg.size
  · intro i j o1 b s z c1 s' z' o hi ho1 hj hgn e1 e2 hij hbc
    subst hbc
    rcases get i o1 hi with ⟨hi1, hi⟩ | ⟨rfl, rfl⟩
    · rw [hold i (by omega)] at e1
      rcases hH i o1 hi with rfl | ⟨hi, hi2⟩
      · cases ho1
      · rcases get j o hj with ⟨hj1, hj⟩ | ⟨rfl, rfl⟩
        · rw [hold j (by omega)] at e2
          rcases hH j o hj with rfl | ⟨hj, _⟩
          · exact hgn rfl
          · exact h.apart i j o1 b s z b s' z' o hi ho1 hj hgn e1 e2 hij rfl
        · rw [hnew] at e2
          cases e2
          rcases (hl' b s' z' rfl).2.2.2 with hr | hr
          · exact hi2 b s z e1 hr
          · have := h.lt i b s z e1; omega
    · rw [hnew] at e1
      cases e1
      rcases get j o hj with ⟨hj1, hj⟩ | ⟨rfl, rfl⟩
      · rw [hold j (by omega)] at e2
        rcases hH j o hj with rfl | ⟨hj, hj2⟩
        · exact hgn rfl
        · rcases (hl' b s z rfl).2.2.2 with hr | hr
          · exact hj2 b s' z' e2 hr
          · have := h.lt j b s' z' e2; omega
      · exact hij rfl
end Go.Proofs.Ytcplbpnpcmgjfab
