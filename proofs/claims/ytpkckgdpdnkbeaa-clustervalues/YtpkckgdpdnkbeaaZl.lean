/- A symbolic run of Go code: loops; memory that is numbered anew. -/
import Derived.Test.YtpkckgdpdnkbeaaZk
import Derived.Deep.LoopGhost
namespace Go.Proofs.Ytpkckgdpdnkbeaa
open Go.RowKit
/-- numbers of ours that are kept, and which they are then -/
def posN (i : Nat) : List Nat → Nat → Option Nat
  | [], _ => none
  | x :: l, n => bif Nat.beq x i then some n else posN i l (n + 1)
def rnL (f : Value → Option Value) : List Value → Option (List Value)
  | [] => some []
  | v :: l => match f v with
    | some v' => (match rnL f l with | some l' => some (v' :: l') | none => none)
    | none => none
def rn0 (ks : List Nat) : Value → Option Value
  | .pointer (some ⟨i, o, s⟩) => (match posN i ks 0 with | some j => some (.pointer (some ⟨j, o, s⟩)) | none => none)
  | .slice (some ⟨i, o, s⟩) l c => (match posN i ks 0 with | some j => some (.slice (some ⟨j, o, s⟩) l c) | none => none)
  | .map (some i) => (match posN i ks 0 with | some j => some (.map (some j)) | none => none)
  | .agg _ | .tuple _ | .func .. | .iface .. => none
  | v => some v
def rn1 (ks : List Nat) : Value → Option Value
  | .agg ⟨cs⟩ => (match rnL (rn0 ks) cs with | some cs' => some (.agg ⟨cs'⟩) | none => none)
  | v => rn0 ks v
def rn2 (ks : List Nat) : Value → Option Value
  | .tuple ⟨cs⟩ => (match rnL (rn1 ks) cs with | some cs' => some (.tuple ⟨cs'⟩) | none => none)
  | .func g ⟨f⟩ ⟨c⟩ => (match rnL (rn1 ks) f with
    | some f' => (match rnL (rn1 ks) c with | some c' => some (.func g ⟨f'⟩ ⟨c'⟩) | none => none)
    | none => none)
  | .iface t v => (match rn1 ks v with | some v' => some (.iface t v') | none => none)
  | v => rn1 ks v
def rnO (ks : List Nat) : AObj → Option AObj
  | .cells T cs => (match rnL (rn2 ks) cs with | some cs' => some (.cells T cs') | none => none)
  | o => some o
def via (ks : List Nat) (ρ : Ren) : Ren := fun j => match nthL ks j with | some i => ρ i | none => none
theorem posN_at {i : Nat} : ∀ {l : List Nat} {n j : Nat}, posN i l n = some j → ∃ k, j = n + k ∧ nthL l k = some i
  | [], _, _, h => by cases h
  | x :: l, n, j, h => by
    unfold posN at h
    cases hb : Nat.beq x i with
    | true => rw [hb] at h; cases h; rw [Nat.beq_eq] at hb; subst hb; exact ⟨0, rfl, rfl⟩
    | false =>
      rw [hb] at h
      obtain ⟨k, e1, e2⟩ := posN_at h
      exact ⟨k + 1, by omega, e2⟩
theorem via_pos {ks : List Nat} {ρ : Ren} {i j : Nat} (h : posN i ks 0 = some j) : via ks ρ j = ρ i := by
  obtain ⟨k, e1, e2⟩ := posN_at h
  rw [Nat.zero_add] at e1
  subst e1
  unfold via
  rw [e2]
theorem rnL_RL {ρ ρ' : Ren} {f : Value → Option Value} (hf : ∀ v v' u, f v = some v' → Rn ρ v u → Rn ρ' v' u) : ∀ {cs cs' us : List Value}, rnL f cs = some cs' → RL ρ cs us → RL ρ' cs' us
  | [], cs', us, h, hr => by cases h; have := hr.nil_inv; subst this; exact .nil ρ'
  | v :: l, cs', us, h, hr => by
    obtain ⟨u, us', rfl, h1, h2⟩ := hr.cons_inv
    unfold rnL at h
    split at h
    · rename_i v' hv
      split at h
      · rename_i l' hl
        cases h
        exact .cons (hf _ _ _ hv h1) (rnL_RL hf hl h2)
      · cases h
    · cases h
theorem rn0_Rn {ρ : Ren} {ks : List Nat} (v v' u : Value) (h : rn0 ks v = some v') (hr : Rn ρ v u) : Rn (via ks ρ) v' u := by
  have ad : ∀ {i : Nat} {f : Nat → Value}, (match posN i ks 0 with | some j => some (f j) | none => none) = some v' → ∃ j, v' = f j ∧ via ks ρ j = ρ i := fun {i f} h => by
    split at h
    · rename_i j hj; cases h; exact ⟨j, rfl, via_pos hj⟩
    · cases h
  cases hr with
  | ptr hm => obtain ⟨j, rfl, e⟩ := ad (f := fun j => .pointer (some ⟨j, _, none⟩)) h; exact .ptr (e.trans hm)
  | ptrR hm => obtain ⟨j, rfl, e⟩ := ad (f := fun j => .pointer (some ⟨j, _, some _⟩)) h; exact .ptrR (e.trans hm)
  | slice l c hm hlc => obtain ⟨j, rfl, e⟩ := ad (f := fun j => .slice (some ⟨j, _, none⟩) _ _) h; exact .slice _ _ (e.trans hm) hlc
  | sliceR l c c' hm hlc hcc hq => obtain ⟨j, rfl, e⟩ := ad (f := fun j => .slice (some ⟨j, _, some _⟩) _ _) h; exact .sliceR _ _ _ (e.trans hm) hlc hcc hq
  | map hm => obtain ⟨j, rfl, e⟩ := ad (f := fun j => .map (some j)) h; exact .map (e.trans hm)
  | @sliceE a a' l c hl hc =>
    cases a with
    | none => cases h; exact .sliceE hl hc
    | some a => obtain ⟨j, rfl, e⟩ := ad (f := fun j => .slice (some ⟨j, a.off, a.spot⟩) l c) h; exact .sliceE hl hc
  | agg => cases h
  | tuple => cases h
  | func => cases h
  | iface => cases h
  | bool b => cases h; exact .bool b
  | int k n => cases h; exact .int k n
  | string s => cases h; exact .string s
  | ptr0 => cases h; exact .ptr0
  | slice0 l c hlc => cases h; exact .slice0 l c hlc
  | map0 => cases h; exact .map0
  | nilIface => cases h; exact .nilIface
  | nilFunc => cases h; exact .nilFunc
theorem rn1_Rn {ρ : Ren} {ks : List Nat} (v v' u : Value) (h : rn1 ks v = some v') (hr : Rn ρ v u) : Rn (via ks ρ) v' u := by
  by_cases ha : ∃ cs, v = .agg cs
  · obtain ⟨⟨cs⟩, rfl⟩ := ha
    simp only [rn1] at h
    split at h
    · rename_i cs' hcs
      cases h
      cases hr with
      | agg hl hh => exact Rn.aggRL (rnL_RL (fun v v' u => rn0_Rn v v' u) hcs ⟨hl, hh⟩)
    · cases h
  · refine rn0_Rn v v' u ?_ hr
    cases v <;> first | exact h | exact absurd ⟨_, rfl⟩ ha
theorem rn2_Rn {ρ : Ren} {ks : List Nat} (v v' u : Value) (h : rn2 ks v = some v') (hr : Rn ρ v u) : Rn (via ks ρ) v' u := by
  by_cases ha : ∃ cs, v = .tuple cs
  · obtain ⟨⟨cs⟩, rfl⟩ := ha
    simp only [rn2] at h
    split at h
    · rename_i cs' hcs
      cases h
      cases hr with
      | tuple hl hh => exact Rn.tupRL (rnL_RL (fun v v' u => rn1_Rn v v' u) hcs ⟨hl, hh⟩)
    · cases h
  by_cases hb : ∃ fn f c, v = .func fn f c
  · obtain ⟨fn, ⟨f⟩, ⟨c⟩, rfl⟩ := hb
    simp only [rn2] at h
    split at h
    · rename_i f' hf
      split at h
      · rename_i c' hc
        cases h
        cases hr with
        | func _ hl hh hl2 hh2 =>
          have r1 := rnL_RL (fun v v' u => rn1_Rn (ρ := ρ) v v' u) hf ⟨hl, hh⟩
          have r2 := rnL_RL (fun v v' u => rn1_Rn (ρ := ρ) v v' u) hc ⟨hl2, hh2⟩
          exact .func fn r1.1 r1.2 r2.1 r2.2
      · cases h
    · cases h
  by_cases hi : ∃ t x, v = .iface t x
  · obtain ⟨t, x, rfl⟩ := hi
    simp only [rn2] at h
    split at h
    · rename_i x' hx
      cases h
      cases hr with
      | iface _ hx' => exact .iface t (rn1_Rn _ _ _ hx hx')
    · cases h
  · refine rn1_Rn v v' u ?_ hr
    cases v <;> first | exact h | exact absurd ⟨_, rfl⟩ ha | exact absurd ⟨_, _, _, rfl⟩ hb | exact absurd ⟨_, _, rfl⟩ hi
/-- objects that are kept -/
def pickH (ks : List Nat) (H : List AObj) : List Nat → Option (List AObj)
  | [] => some []
  | i :: l => match nthL H i with
    | some o => (match rnO ks o with
      | some o' => (match pickH ks H l with | some r => some (o' :: r) | none => none)
      | none => none)
    | none => none
def nodupN : List Nat → Bool
  | [] => true
  | x :: l => !(memN x l) && nodupN l
theorem nodupN_at : ∀ {l : List Nat} {i j x : Nat}, nodupN l = true → l[i]? = some x → l[j]? = some x → i = j
  | [], _, _, _, _, h, _ => by simp at h
  | y :: l, i, j, x, h, h1, h2 => by
    simp only [nodupN, Bool.and_eq_true, Bool.not_eq_eq_eq_not, Bool.not_true] at h
    have no : ∀ k, l[k]? = some y → False := fun k hk => by
      have := memN_iff.2 (List.mem_of_getElem? hk)
      rw [h.1] at this
      cases this
    cases i with
    | zero =>
      cases j with
      | zero => rfl
      | succ j => simp at h1 h2; subst h1; exact (no j h2).elim
    | succ i =>
      cases j with
      | zero => simp at h1 h2; subst h2; exact (no i h1).elim
      | succ j => simp at h1 h2; rw [nodupN_at h.2 h1 h2]
theorem pickH_at {ks : List Nat} {H : List AObj} : ∀ {l : List Nat} {r : List AObj}, pickH ks H l = some r → r.length = l.length ∧ ∀ (j : Nat) o', r[j]? = some o' → ∃ i o, l[j]? = some i ∧ H[i]? = some o ∧ rnO ks o = some o'
  | [], r, h => by cases h; exact ⟨rfl, fun j o' hj => by simp at hj⟩
  | i :: l, r, h => by
    unfold pickH at h
    split at h
    · rename_i o ho
      split at h
      · rename_i o' ho'
        split at h
        · rename_i r' hr
          cases h
          obtain ⟨h1, h2⟩ := pickH_at hr
          refine ⟨by simp [h1], fun j x hj => ?_⟩
          cases j with
          | zero => simp at hj; subst hj; rw [nthL_eq] at ho; exact ⟨i, o, rfl, ho, ho'⟩
          | succ j => obtain ⟨i', o2, e⟩ := h2 j x (by simpa using hj); exact ⟨i', o2, by simpa using e⟩
        · cases h
      · cases h
    · cases h
/-- MEMORY IS NUMBERED ANEW. -/
theorem HC.via {base : Nat} {w0 w : World} {ρ : Ren} {H H' : List AObj} (h : HC base w0 ρ H w) {ks : List Nat} (hp : pickH ks H ks = some H') (hn : nodupN ks = true) : HC base w0 (Go.Proofs.Ytpkckgdpdnkbeaa.via ks ρ) H' w := by
  obtain ⟨h1, h2⟩ := pickH_at hp
  have vat : ∀ {j i : Nat}, ks[j]? = some i → Go.Proofs.Ytpkckgdpdnkbeaa.via ks ρ j = ρ i := fun {j i} e => by
    unfold Go.Proofs.Ytpkckgdpdnkbeaa.via
    rw [nthL_eq, e]
  have vinv : ∀ {j : Nat} {l : Loc}, Go.Proofs.Ytpkckgdpdnkbeaa.via ks ρ j = some l → ∃ i, ks[j]? = some i ∧ ρ i = some l := fun {j l} e => by
    unfold Go.Proofs.Ytpkckgdpdnkbeaa.via at e
    rw [nthL_eq] at e
    split at e
    · rename_i i hi; exact ⟨i, hi, e⟩
    · cases e
  refine ⟨h.below, h.floor, ?_, ?_, ?_, ?_⟩
  · intro j o' hj
    obtain ⟨i, o, e1, e2, e3⟩ := h2 j o' hj
    have hoc := h.obj i o e2
    have hv := vat e1
    cases o with
    | cells T cs =>
      simp only [rnO] at e3
      split at e3
      · rename_i cs' hcs
        cases e3
        obtain ⟨b, us, g1, g2, g3, g4⟩ := hoc
        exact ⟨b, us, hv.trans g1, g2, rnL_RL (fun v v' u => rn2_Rn v v' u) hcs g3, g4⟩
      · cases e3
    | recs sh n g => cases e3; obtain ⟨l, g1, g2⟩ := hoc; exact ⟨l, hv.trans g1, g2⟩
    | gone => cases e3; trivial
    | row e sh n g => cases e3; obtain ⟨l, g1, g2⟩ := hoc; exact ⟨l, hv.trans g1, g2⟩
    | mp es clock => cases e3; obtain ⟨b, g1, g2⟩ := hoc; exact ⟨b, hv.trans g1, g2⟩
  · intro j l e
    obtain ⟨i, e1, _⟩ := vinv e
    rw [h1]
    exact (List.getElem?_eq_some_iff.1 e1).1
  · intro j b s z e
    obtain ⟨i, _, e2⟩ := vinv e
    exact h.lt i b s z e2
  · intro j1 j2 o1 b s z c s' z' o hj1 ho1 hj2 hg e1 e2 hne
    obtain ⟨i1, p1, r1, r2, r3⟩ := h2 j1 o1 hj1
    obtain ⟨i2, p2, q1, q2, q3⟩ := h2 j2 o hj2
    rw [vat r1] at e1
    rw [vat q1] at e2
    have own : p1.own = true := by
      cases p1 <;> simp only [rnO] at r3
      case cells => rfl
      all_goals (cases r3; exact ho1)
    have ng : ∀ _ : p2 = .gone, False := fun e => by subst e; cases q3; exact hg rfl
    exact h.apart i1 i2 p1 b s z c s' z' p2 r2 own q2 ng e1 e2 fun e => hne (nodupN_at hn (by rw [r1, e]) q1)
/-- numbers that a value names -/
def refs0 : Value → List Nat
  | .pointer (some ⟨i, _, _⟩) => [i]
  | .slice (some ⟨i, _, _⟩) _ _ => [i]
  | .map (some i) => [i]
  | _ => []
def refsL (f : Value → List Nat) : List Value → List Nat
  | [] => []
  | v :: l => catN (f v) (refsL f l)
def refs1 : Value → List Nat
  | .agg ⟨cs⟩ => refsL refs0 cs
  | v => refs0 v
def refs2 : Value → List Nat
  | .tuple ⟨cs⟩ => refsL refs1 cs
  | .func _ ⟨f⟩ ⟨c⟩ => catN (refsL refs1 f) (refsL refs1 c)
  | .iface _ v => refs1 v
  | v => refs1 v
def refsO : AObj → List Nat
  | .cells _ cs => refsL refs2 cs
  | _ => []
def refsH : Nat → List AObj → List Nat
  | n + 1, o :: l => catN (refsO o) (refsH n l)
  | _, _ => []
/-- all that is named, in its order -/
def scan (H : List AObj) (m : Nat) : Nat → List Nat → List Nat → List Nat
  | 0, _, acc => acc
  | _, [], acc => acc
  | n + 1, i :: l, acc => match Nat.blt i m || memN i acc with
    | true => scan H m n l acc
    | false => scan H m n (catN l (match nthL H i with | some o => refsO o | none => [])) (catN acc [i])
def upN : Nat → Nat → List Nat
  | _, 0 => []
  | i, n + 1 => i :: upN (i + 1) n
theorem upN_at : ∀ (n i j : Nat) (l : List Nat), j < n → nthL (catN (upN i n) l) j = some (i + j)
  | n + 1, i, 0, l, _ => rfl
  | n + 1, i, j + 1, l, h => by
    show nthL (catN (upN (i + 1) n) l) j = _
    rw [upN_at n (i + 1) j l (by omega)]
    congr 1
    omega
def noneL : Nat → List (Option Value)
  | 0 => []
  | n + 1 => none :: noneL n
def mkSlots (N : Nat) : List Nat → List Value → List (Option Value)
  | t :: ts, v :: vs => setO (mkSlots N ts vs) t v
  | _, _ => noneL N
theorem noneL_len : ∀ n, (noneL n).length = n
  | 0 => rfl
  | n + 1 => by simp [noneL, noneL_len n]
theorem noneL_at : ∀ n t, nthO (noneL n) t = none
  | 0, _ => rfl
  | _ + 1, 0 => rfl
  | n + 1, t + 1 => noneL_at n t
theorem mkSlots_len (N : Nat) : ∀ ts vs, (mkSlots N ts vs).length = N
  | _ :: ts, _ :: vs => by rw [mkSlots, setO_len, mkSlots_len N ts vs]
  | [], _ => noneL_len N
  | _ :: _, [] => noneL_len N
def gather (S : List (Option Value)) : List Nat → Option (List Value)
  | [] => some []
  | t :: ts => match nthO S t with
    | some v => (match gather S ts with | some vs => some (v :: vs) | none => none)
    | none => none
theorem gather_at {S : List (Option Value)} {N : Nat} : ∀ {ts : List Nat} {vs : List Value}, gather S ts = some vs → ∀ t v, nthO (mkSlots N ts vs) t = some v → nthO S t = some v ∧ v ∈ vs
  | [], vs, h, t, v, e => by cases h; rw [show mkSlots N [] [] = noneL N from rfl, noneL_at] at e; cases e
  | t0 :: ts, vs, h, t, v, e => by
    unfold gather at h
    split at h
    · rename_i v0 h0
      split at h
      · rename_i vs' hg
        cases h
        rw [mkSlots, nthO_set] at e
        split at e
        · rename_i hc
          cases e
          rw [← hc.1]
          exact ⟨h0, List.mem_cons_self ..⟩
        · have := gather_at hg t v e
          exact ⟨this.1, List.mem_cons_of_mem _ this.2⟩
      · cases h
    · cases h
theorem someL_inj : ∀ {a b : List Value}, someL a = someL b → a = b
  | [], [], _ => rfl
  | [], _ :: _, h => by cases h
  | _ :: _, [], h => by cases h
  | x :: a, y :: b, h => by
    simp only [someL, List.cons.injEq, Option.some.injEq] at h
    rw [h.1, someL_inj h.2]
/-- slots that are kept, one of them renumbered -/
theorem gatherR_ok {ρ ρ' : Ren} {S : List (Option Value)} {a : Act} {N : Nat} {ts : List Nat} {vs vs' : List Value} (h : SC ρ S a) (hl : S.length = N) (hg : gather S ts = some vs) (hr : ∀ (i : Nat) v', vs'[i]? = some v' → ∃ v, vs[i]? = some v ∧ ∀ u, Rn ρ v u → Rn ρ' v' u) : SC ρ' (mkSlots N ts vs') a := by
  refine ⟨h.1, by rw [mkSlots_len, h.2.1, hl], fun t v e => ?_⟩
  have key : ∀ (ts : List Nat) (vs vs' : List Value), gather S ts = some vs → (∀ (i : Nat) v', vs'[i]? = some v' → ∃ v, vs[i]? = some v ∧ ∀ u, Rn ρ v u → Rn ρ' v' u) → nthO (mkSlots N ts vs') t = some v → ∃ v0, nthO S t = some v0 ∧ ∀ u, Rn ρ v0 u → Rn ρ' v u := fun ts => by
    induction ts with
    | nil => intro vs vs' _ _ e; rw [show mkSlots N [] vs' = noneL N by cases vs' <;> rfl, noneL_at] at e; cases e
    | cons t0 ts ih =>
      intro vs vs' hg hr e
      cases vs' with
      | nil => rw [show mkSlots N (t0 :: ts) [] = noneL N from rfl, noneL_at] at e; cases e
      | cons v1 vs' =>
        unfold gather at hg
        split at hg
        · rename_i v0 h0
          split at hg
          · rename_i vs2 hg2
            cases hg
            rw [mkSlots, nthO_set] at e
            split at e
            · rename_i hc
              cases e
              rw [← hc.1]
              obtain ⟨v9, hv, hx⟩ := hr 0 _ rfl
              simp at hv
              subst hv
              exact ⟨v0, h0, hx⟩
            · exact ih vs2 vs' hg2 (fun i v' hi => by simpa using hr (i + 1) v' (by simpa using hi)) e
          · cases hg
        · cases hg
  obtain ⟨v0, h1, h2⟩ := key ts vs vs' hg hr e
  obtain ⟨u, h3, h4⟩ := h.2.2 t v0 h1
  exact ⟨u, h3, h2 u h4⟩
/-- what is kept of a state: these slots, the first m of memory's objects, and what is named besides -/
def pkG (N : Nat) (keep : AE → List Nat) (m : Nat) (e : AE) (S : ASt) : Out :=
  match gather S.slots (keep e) with
  | some vs => (match catN (upN 0 m) (scan S.heap m 100 (catN (refsL refs2 vs) (refsH m S.heap)) []) with
    | ks => (match nodupN ks && Nat.beq S.slots.length N with
      | true => (match rnL (rn2 ks) vs with
        | some vs' => (match pickH ks S.heap ks with
          | some H' => .done e ⟨someL vs', H'⟩
          | none => .bad)
        | none => .bad)
      | false => .bad))
  | none => .bad
theorem pkG_ok {Φ : Lf} {N m : Nat} {keep : AE → List Nat} {e : AE} {S : ASt} {a : Act} {base : Nat} {w0 w : World} {ρ : Ren} (h : (pkG N keep m e S).sat Φ) (hc : HC base w0 ρ S.heap w) (hs : SC ρ S.slots a) :
    ∃ vs H ρ', Φ e ⟨someL vs, H⟩ ∧ HC base w0 ρ' H w ∧ SC ρ' (mkSlots N (keep e) vs) a ∧ ∀ j l, j < m → ρ j = some l → ρ' j = some l := by
  unfold pkG at h
  split at h
  · rename_i vs hg
    generalize hks : catN (upN 0 m) (scan S.heap m 100 (catN (refsL refs2 vs) (refsH m S.heap)) []) = ks at h
    simp only at h
    split at h
    · rename_i hb
      simp only [Bool.and_eq_true, Nat.beq_eq] at hb
      split at h
      · rename_i vs' hv
        split at h
        · rename_i H' hH
          have vL : ∀ (i : Nat) v', vs'[i]? = some v' → ∃ v, vs[i]? = some v ∧ ∀ u, Rn ρ v u → Rn (via ks ρ) v' u := by
            have go : ∀ (l l' : List Value), rnL (rn2 ks) l = some l' → ∀ (i : Nat) v', l'[i]? = some v' → ∃ v, l[i]? = some v ∧ rn2 ks v = some v' := fun l => by
              induction l with
              | nil => intro l' e i v' hi; cases e; simp at hi
              | cons x l ih =>
                intro l' e i v' hi
                unfold rnL at e
                split at e
                · rename_i x' hx
                  split at e
                  · rename_i l2 hl
                    cases e
                    cases i with
                    | zero => simp at hi; subst hi; exact ⟨x, rfl, hx⟩
                    | succ i => obtain ⟨v, e1, e2⟩ := ih l2 hl i v' (by simpa using hi); exact ⟨v, by simpa using e1, e2⟩
                  · cases e
                · cases e
            intro i v' hi
            obtain ⟨v, e1, e2⟩ := go vs vs' hv i v' hi
            exact ⟨v, e1, fun u hu => rn2_Rn _ _ _ e2 hu⟩
          refine ⟨vs', H', via ks ρ, h, hc.via hH hb.1, gatherR_ok hs hb.2 hg vL, fun j l hj e => ?_⟩
          unfold via
          rw [← hks, upN_at m 0 j _ hj, Nat.zero_add]
          exact e
        · exact h.elim
      · exact h.elim
    · exact h.elim
  · exact h.elim
/-- a loop's contract: of the slots that are kept and of memory, how it may be left -/
def lspec (N : Nat) (keep : AE → List Nat) (m : Nat) (g : List Value → List AObj → (AE → List Value → List AObj → Out) → Out) : LCon := fun S k =>
  match gather S.slots (keep .normal) with
  | some vs => (match Nat.beq S.slots.length N && Nat.beq S.heap.length m with
    | true => g vs S.heap fun e vs H => k e ⟨mkSlots N (keep e) vs, H⟩
    | false => .bad)
  | none => .bad
/-- A LOOP IS AS ITS CONTRACT SAYS, if its rounds keep to it. -/
theorem lspec_ok {Kn : Kn} (hK : Kn.Ok) {L : Nat → Option LCon} {c : Code} (hL : ∀ c' ∈ loops c, ∀ F, L (key c') = some F → LOk Kn.P c' F) {N : Nat} {keep : AE → List Nat} {m : Nat} {g : List Value → List AObj → (AE → List Value → List AObj → Out) → Out}
    (h : ∀ Φ vs H k, H.length = m → (g vs H k).sat Φ → ∃ (ι : Type) (I : ι → List Value) (J : ι → List AObj) (μ : ι → Nat) (i0 : ι), I i0 = vs ∧ J i0 = H ∧
      ∀ i, (ev Kn L c ⟨mkSlots N (keep .normal) (I i), J i⟩ (pkG N keep m)).sat fun e S => match e with
        | .normal => ∃ i', S.slots = someL (I i') ∧ S.heap = J i' ∧ μ i' < μ i
        | e => ∃ vs, S.slots = someL vs ∧ (k e vs S.heap).sat Φ) : LOk Kn.P c (lspec N keep m g) := by
  intro Φ S k hs base w0 ρ0 a w hc hsc Q hq
  unfold lspec at hs
  split at hs
  · rename_i vs hg
    split at hs
    · rename_i hb
      simp only [Bool.and_eq_true, Nat.beq_eq] at hb
      obtain ⟨ι, I, J, μ, i0, e0, e1, hr⟩ := h Φ vs S.heap _ hb.2 hs
      have hst : SC ρ0 (mkSlots N (keep .normal) (I i0)) a := by rw [e0]; exact gatherR_ok hsc hb.1 hg fun i v' hi => ⟨v', hi, fun u hu => hu⟩
      refine wp_loop_ghost (fun n a' w' => ∃ i ρ', μ i = n ∧ HC base w0 ρ' (J i) w' ∧ SC ρ' (mkSlots N (keep .normal) (I i)) a' ∧ RLe ρ0 ρ') (μ i0) ⟨i0, ρ0, rfl, by rw [e1]; exact hc, hst, RLe.refl _⟩ ?_
      rintro n a1 w1 ⟨i, ρ1, rfl, hc1, hs1, hl1⟩
      refine ev_ok hK c hL _ _ ρ1 a1 w1 _ (hr i) hc1 hs1 fun e S' ρ2 a2 w2 g1 g2 g3 g4 => ?_
      obtain ⟨vs', H', ρ', f1, hc2, hs2, hpre⟩ := pkG_ok g1 g2 g3
      have hl2 : RLe ρ0 ρ' := fun j l e => hpre j l (by have := hc.dom j l e; omega) (g4 j l (hl1 j l e))
      cases e with
      | normal =>
        obtain ⟨i', q1, q2, q3⟩ := f1
        have q1' := someL_inj q1
        have q2' : H' = J i' := q2
        subst q1' q2'
        exact ⟨μ i', q3, i', ρ', rfl, hc2, hs2, hl2⟩
      | exit n =>
        obtain ⟨vs2, q1, q2⟩ := f1
        have q1' := someL_inj q1
        subst q1'
        exact hq (.exit n) _ ρ' a2 w2 q2 hc2 hs2 hl2
      | ret =>
        obtain ⟨vs2, q1, q2⟩ := f1
        have q1' := someL_inj q1
        subst q1'
        exact hq .ret _ ρ' a2 w2 q2 hc2 hs2 hl2
    · exact hs.elim
  · exact hs.elim
/-- a loop, round by round -/
def rounds (Kn : Kn) (L : Nat → Option LCon) (c : Code) : Nat → LCon
  | 0 => fun _ _ => .bad
  | n + 1 => fun S k => ev Kn L c S fun e S' => match e with
    | .normal => rounds Kn L c n S' k
    | .exit i => k (.exit i) S'
    | .ret => k .ret S'
theorem rounds_ok {Kn : Kn} (hK : Kn.Ok) {L : Nat → Option LCon} {c : Code} (hL : ∀ c' ∈ loops c, ∀ F, L (key c') = some F → LOk Kn.P c' F) (n : Nat) : LOk Kn.P c (rounds Kn L c n) := by
  intro Φ S k hs base w0 ρ0 a w hc hsc Q hq
  refine wp_loop_ghost (fun n a' w' => ∃ S' ρ', (rounds Kn L c n S' k).sat Φ ∧ HC base w0 ρ' S'.heap w' ∧ SC ρ' S'.slots a' ∧ RLe ρ0 ρ') n ⟨S, ρ0, hs, hc, hsc, RLe.refl _⟩ ?_
  rintro n a1 w1 ⟨S1, ρ1, h1, hc1, hs1, hl1⟩
  cases n with
  | zero => exact h1.elim
  | succ n =>
    refine ev_ok hK c hL S1 _ ρ1 a1 w1 _ h1 hc1 hs1 fun e S' ρ2 a2 w2 g1 g2 g3 g4 => ?_
    cases e with
    | normal => exact ⟨n, Nat.lt_succ_self n, S', ρ2, g1, g2, g3, hl1.trans g4⟩
    | exit i => exact hq (.exit i) S' ρ2 a2 w2 g1 g2 g3 (hl1.trans g4)
    | ret => exact hq .ret S' ρ2 a2 w2 g1 g2 g3 (hl1.trans g4)
end Go.Proofs.Ytpkckgdpdnkbeaa
