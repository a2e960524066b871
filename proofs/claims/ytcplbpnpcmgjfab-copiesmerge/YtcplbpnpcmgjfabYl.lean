/- A symbolic run of Go code: loops. -/
import Derived.Test.YtcplbpnpcmgjfabYk
import Derived.Deep.LoopGhost
namespace Go.Proofs.Ytcplbpnpcmgjfab
open Go.RowKit
/-- all numbers of ours in a value are below n -/
def sc0 (n : Nat) : Value → Bool
  | .pointer (some ⟨i, _, _⟩) => Nat.blt i n
  | .slice (some ⟨i, _, _⟩) _ _ => Nat.blt i n
  | .map (some i) => Nat.blt i n
  | .agg _ | .tuple _ | .func .. | .iface .. => false
  | _ => true
def sc1 (n : Nat) : Value → Bool
  | .agg ⟨cs⟩ => allB (sc0 n) cs
  | v => sc0 n v
def sc2 (n : Nat) : Value → Bool
  | .tuple ⟨cs⟩ => allB (sc1 n) cs
  | .func _ ⟨f⟩ ⟨c⟩ => allB (sc1 n) f && allB (sc1 n) c
  | .iface _ v => sc1 n v
  | v => sc1 n v
def cut (ρ : Ren) (n : Nat) : Ren := fun i => bif Nat.blt i n then ρ i else none
theorem cut_at {ρ : Ren} {n i : Nat} (h : Nat.blt i n = true) : cut ρ n i = ρ i := by unfold cut; rw [h]; rfl
theorem sc0_Rn {ρ : Ren} {n : Nat} {v u : Value} (h : Rn ρ v u) (hs : sc0 n v = true) : Rn (cut ρ n) v u := by
  cases h with
  | ptr hm => exact .ptr ((cut_at (by exact hs)).trans hm)
  | ptrR hm => exact .ptrR ((cut_at (by exact hs)).trans hm)
  | slice l c hm hlc => exact .slice l c ((cut_at (by exact hs)).trans hm) hlc
  | sliceR l c hm hlc => exact .sliceR l c ((cut_at (by exact hs)).trans hm) hlc
  | map hm => exact .map ((cut_at (by exact hs)).trans hm)
  | agg => cases hs
  | tuple => cases hs
  | func => cases hs
  | iface => cases hs
  | bool b => exact .bool b
  | int k n => exact .int k n
  | string s => exact .string s
  | ptr0 => exact .ptr0
  | slice0 l c hlc => exact .slice0 l c hlc
  | sliceE hl hc => exact .sliceE hl hc
  | map0 => exact .map0
  | nilIface => exact .nilIface
  | nilFunc => exact .nilFunc
theorem allB_RL {ρ ρ' : Ren} {f : Value → Bool} (hf : ∀ v u, Rn ρ v u → f v = true → Rn ρ' v u) {cs us : List Value} (h : RL ρ cs us) (hs : allB f cs = true) : RL ρ' cs us :=
  ⟨h.1, fun i v u hv hu => hf v u (h.2 i v u hv hu) (allB_at hs i v hv)⟩
theorem sc1_Rn {ρ : Ren} {n : Nat} {v u : Value} (h : Rn ρ v u) (hs : sc1 n v = true) : Rn (cut ρ n) v u := by
  by_cases ha : ∃ cs, v = .agg cs
  · obtain ⟨⟨cs⟩, rfl⟩ := ha
    cases h with
    | agg hl hh => exact Rn.aggRL (allB_RL (fun v u => sc0_Rn) ⟨hl, hh⟩ hs)
  · refine sc0_Rn h ?_
    cases v <;> first | exact hs | exact absurd ⟨_, rfl⟩ ha
theorem sc2_Rn {ρ : Ren} {n : Nat} {v u : Value} (h : Rn ρ v u) (hs : sc2 n v = true) : Rn (cut ρ n) v u := by
  by_cases ha : ∃ cs, v = .tuple cs
  · obtain ⟨⟨cs⟩, rfl⟩ := ha
    cases h with
    | tuple hl hh => exact Rn.tupRL (allB_RL (fun v u => sc1_Rn) ⟨hl, hh⟩ hs)
  by_cases hb : ∃ fn f c, v = .func fn f c
  · obtain ⟨fn, ⟨f⟩, ⟨c⟩, rfl⟩ := hb
    simp only [sc2, Bool.and_eq_true] at hs
    cases h with
    | func _ hl hh hl2 hh2 =>
      have r1 := allB_RL (fun v u => sc1_Rn (n := n)) ⟨hl, hh⟩ hs.1
      have r2 := allB_RL (fun v u => sc1_Rn (n := n)) ⟨hl2, hh2⟩ hs.2
      exact .func fn r1.1 r1.2 r2.1 r2.2
  by_cases hi : ∃ t x, v = .iface t x
  · obtain ⟨t, x, rfl⟩ := hi
    cases h with
    | iface _ hx => exact .iface t (sc1_Rn hx hs)
  · refine sc1_Rn h ?_
    cases v <;> first | exact hs | exact absurd ⟨_, rfl⟩ ha | exact absurd ⟨_, _, _, rfl⟩ hb | exact absurd ⟨_, _, rfl⟩ hi
def scO (n : Nat) : AObj → Bool
  | .cells _ cs => allB (sc2 n) cs
  | _ => true
def allO (f : AObj → Bool) : List AObj → Bool
  | [] => true
  | o :: l => f o && allO f l
theorem allO_at {f : AObj → Bool} : ∀ {l : List AObj}, allO f l = true → ∀ (i : Nat) o, l[i]? = some o → f o = true
  | [], _, i, v, h => by simp at h
  | x :: l, h, 0, v, hv => by simp [allO] at h; simp at hv; rw [← hv]; exact h.1
  | x :: l, h, i + 1, v, hv => by simp [allO] at h; exact allO_at h.2 i v (by simpa using hv)
def takeH : Nat → List AObj → List AObj
  | 0, _ => []
  | _, [] => []
  | n + 1, o :: l => o :: takeH n l
theorem takeH_eq : ∀ (n : Nat) (l : List AObj), takeH n l = l.take n
  | 0, l => by simp [takeH]
  | n + 1, [] => by simp [takeH]
  | n + 1, o :: l => by simp [takeH, takeH_eq n l]
/-- MEMORY THAT IS NO LONGER NAMED IS LEFT. -/
theorem HC.take {base : Nat} {w0 w : World} {ρ : Ren} {H : List AObj} (h : HC base w0 ρ H w) {m : Nat} (hm : m ≤ H.length) (hs : allO (scO m) (H.take m) = true) : HC base w0 (cut ρ m) (H.take m) w := by
  have hcut : ∀ i l, cut ρ m i = some l → i < m ∧ ρ i = some l := fun i l e => by
    unfold cut at e
    cases hb : Nat.blt i m with
    | false => rw [hb] at e; cases e
    | true => rw [hb] at e; rw [Nat.blt_eq] at hb; exact ⟨hb, e⟩
  have hat : ∀ (i : Nat) o, (H.take m)[i]? = some o → i < m ∧ H[i]? = some o := fun i o e => by
    rw [List.getElem?_take] at e
    split at e
    · exact ⟨by assumption, e⟩
    · cases e
  refine ⟨h.below, h.floor, ?_, ?_, ?_, ?_⟩
  · intro i o ho
    obtain ⟨hi, ho'⟩ := hat i o ho
    have hb : Nat.blt i m = true := by rw [Nat.blt_eq]; exact hi
    have hsc := allO_at hs i o ho
    have hoc := h.obj i o ho'
    cases o with
    | gone => trivial
    | cells T cs =>
      obtain ⟨b, us, h1, h2, h3, h4⟩ := hoc
      exact ⟨b, us, (cut_at hb).trans h1, h2, allB_RL (fun v u => sc2_Rn) h3 hsc, h4⟩
    | recs sh n f =>
      obtain ⟨l, h1, h2⟩ := hoc
      exact ⟨l, (cut_at hb).trans h1, h2⟩
    | row e sh n c f =>
      obtain ⟨l, h1, h2⟩ := hoc
      exact ⟨l, (cut_at hb).trans h1, h2⟩
  · intro i l e
    have := (hcut i l e).1
    simp; omega
  · intro i b s z e; exact h.lt i b s z (hcut i _ e).2
  · intro i j o1 b s z c s' z' o h1 ho1 h2 hg e1 e2 hne
    exact h.apart i j o1 b s z c s' z' o (hat i _ h1).2 ho1 (hat j _ h2).2 hg (hcut i _ e1).2 (hcut j _ e2).2 hne
theorem cut_le {ρ ρ' : Ren} {n m : Nat} (hle : RLe ρ ρ') (hd : ∀ i l, ρ i = some l → i < n) (hm : n ≤ m) : RLe ρ (cut ρ' m) := fun i l e => by
  have hi : Nat.blt i m = true := by rw [Nat.blt_eq]; have := hd i l e; omega
  exact (cut_at hi).trans (hle i l e)
def noneL : Nat → List (Option Value)
  | 0 => []
  | n + 1 => none :: noneL n
def mkSlots (N : Nat) : List Nat → List Value → List (Option Value)
  | t :: ts, v :: vs => setO (mkSlots N ts vs) t v
  | _, _ => noneL N
theorem noneL_len : ∀ n, (noneL n).length = n
  | 0 => rfl
  | n + 1 => by simp [noneL, noneL_len n]
theorem noneL_at : ∀ n t, nthO (noneL n) t = none
  | 0, _ => rfl
  | _ + 1, 0 => rfl
  | n + 1, t + 1 => noneL_at n t
theorem mkSlots_len (N : Nat) : ∀ ts vs, (mkSlots N ts vs).length = N
  | _ :: ts, _ :: vs => by rw [mkSlots, setO_len, mkSlots_len N ts vs]
  | [], _ => noneL_len N
  | _ :: _, [] => noneL_len N
def gather (S : List (Option Value)) : List Nat → Option (List Value)
  | [] => some []
  | t :: ts => match nthO S t with
    | some v => (match gather S ts with | some vs => some (v :: vs) | none => none)
    | none => none
theorem gather_at {S : List (Option Value)} {N : Nat} : ∀ {ts : List Nat} {vs : List Value}, gather S ts = some vs → ∀ t v, nthO (mkSlots N ts vs) t = some v → nthO S t = some v ∧ v ∈ vs
  | [], vs, h, t, v, e => by cases h; rw [show mkSlots N [] [] = noneL N from rfl, noneL_at] at e; cases e
  | t0 :: ts, vs, h, t, v, e => by
    unfold gather at h
    split at h
    · rename_i v0 h0
      split at h
      · rename_i vs' hg
        cases h
        rw [mkSlots, nthO_set] at e
        split at e
        · rename_i hc
          cases e
          rw [← hc.1]
          exact ⟨h0, List.mem_cons_self ..⟩
        · have := gather_at hg t v e
          exact ⟨this.1, List.mem_cons_of_mem _ this.2⟩
      · cases h
    · cases h
theorem SC.gather {ρ ρ' : Ren} {S : List (Option Value)} {a : Act} {N : Nat} {ts : List Nat} {vs : List Value} (h : SC ρ S a) (hl : S.length = N) (hg : gather S ts = some vs) (hr : ∀ v ∈ vs, ∀ u, Rn ρ v u → Rn ρ' v u) : SC ρ' (mkSlots N ts vs) a := by
  refine ⟨h.1, by rw [mkSlots_len, h.2.1, hl], fun t v e => ?_⟩
  obtain ⟨h1, h2⟩ := gather_at hg t v e
  obtain ⟨u, h3, h4⟩ := h.2.2 t v h1
  exact ⟨u, h3, hr v h2 u h4⟩
/-- what is kept of a state: these slots, so many of memory's objects -/
def pk (N : Nat) (keep : AE → List Nat) (m : Nat) (e : AE) (S : ASt) : Out :=
  match gather S.slots (keep e) with
  | some vs => (match Nat.beq S.slots.length N && Nat.ble m S.heap.length && allB (sc2 m) vs && allO (scO m) (takeH m S.heap) with
    | true => .done e ⟨someL vs, takeH m S.heap⟩
    | false => .bad)
  | none => .bad
/-- a loop's contract: of the slots that are kept and of memory, how it may be left -/
def lspec (N : Nat) (keep : AE → List Nat) (m : Nat) (g : List Value → List AObj → (AE → List Value → List AObj → Out) → Out) : LCon := fun S k =>
  match gather S.slots (keep .normal) with
  | some vs => (match Nat.beq S.slots.length N && Nat.ble S.heap.length m with
    | true => g vs S.heap fun e vs H => k e ⟨mkSlots N (keep e) vs, H⟩
    | false => .bad)
  | none => .bad
theorem someL_inj : ∀ {a b : List Value}, someL a = someL b → a = b
  | [], [], _ => rfl
  | [], _ :: _, h => by cases h
  | _ :: _, [], h => by cases h
  | x :: a, y :: b, h => by
    simp only [someL, List.cons.injEq, Option.some.injEq] at h
    rw [h.1, someL_inj h.2]
/-- A LOOP IS AS ITS CONTRACT SAYS, if its rounds keep to it. -/
theorem lspec_ok {Kn : Kn} (hK : Kn.Ok) {L : Nat → Option LCon} {c : Code} (hL : ∀ c' ∈ loops c, ∀ F, L (key c') = some F → LOk Kn.P c' F) {N : Nat} {keep : AE → List Nat} {m : Nat} {g : List Value → List AObj → (AE → List Value → List AObj → Out) → Out}
    (h : ∀ Φ vs H k, (g vs H k).sat Φ → H.length = m ∧ ∃ (ι : Type) (I : ι → List Value) (J : ι → List AObj) (μ : ι → Nat) (i0 : ι), I i0 = vs ∧ J i0 = H ∧
      ∀ i, (ev Kn L c ⟨mkSlots N (keep .normal) (I i), J i⟩ (pk N keep m)).sat fun e S => match e with
        | .normal => ∃ i', S.slots = someL (I i') ∧ S.heap = J i' ∧ μ i' < μ i
        | e => ∃ vs, S.slots = someL vs ∧ (k e vs S.heap).sat Φ) : LOk Kn.P c (lspec N keep m g) := by
  intro Φ S k hs base w0 ρ0 a w hc hsc Q hq
  unfold lspec at hs
  split at hs
  · rename_i vs hg
    split at hs
    · rename_i hb
      simp only [Bool.and_eq_true, Nat.beq_eq, Nat.ble_eq] at hb
      obtain ⟨hm, ι, I, J, μ, i0, e0, e1, hr⟩ := h Φ vs S.heap _ hs
      have hst : SC ρ0 (mkSlots N (keep .normal) (I i0)) a := by rw [e0]; exact hsc.gather hb.1 hg (fun _ _ _ h => h)
      have hle0 : RLe ρ0 ρ0 := RLe.refl _
      refine wp_loop_ghost (fun n a' w' => ∃ i ρ', μ i = n ∧ HC base w0 ρ' (J i) w' ∧ SC ρ' (mkSlots N (keep .normal) (I i)) a' ∧ RLe ρ0 ρ') (μ i0) ⟨i0, ρ0, rfl, by rw [e1]; exact hc, hst, hle0⟩ ?_
      rintro n a1 w1 ⟨i, ρ1, rfl, hc1, hs1, hl1⟩
      refine ev_ok hK c hL _ _ ρ1 a1 w1 _ (hr i) hc1 hs1 fun e S' ρ2 a2 w2 g1 g2 g3 g4 => ?_
      unfold pk at g1
      split at g1
      · rename_i vs' hg'
        split at g1
        · rename_i hb'
          simp only [Bool.and_eq_true, Nat.beq_eq, Nat.ble_eq] at hb'
          obtain ⟨⟨⟨b1, b2⟩, b3⟩, b4⟩ := hb'
          rw [takeH_eq] at b4 g1
          have hc2 := g2.take b2 b4
          have hs2 : SC (cut ρ2 m) (mkSlots N (keep e) vs') a2 := g3.gather b1 hg' fun v hv u hr => sc2_Rn hr (allB_mem b3 v hv)
          have hl2 : RLe ρ0 (cut ρ2 m) := cut_le (hl1.trans g4) hc.dom hb.2
          cases e with
          | normal =>
            obtain ⟨i', f1, f2, f3⟩ := g1
            have f1' := someL_inj f1
            have f2' : S'.heap.take m = J i' := f2
            refine ⟨μ i', f3, i', cut ρ2 m, rfl, by rw [← f2']; exact hc2, by rw [← f1']; exact hs2, hl2⟩
          | exit n =>
            obtain ⟨vs2, f1, f2⟩ := g1
            have f1' := someL_inj f1
            subst f1'
            exact hq (.exit n) _ (cut ρ2 m) a2 w2 f2 hc2 hs2 hl2
          | ret =>
            obtain ⟨vs2, f1, f2⟩ := g1
            have f1' := someL_inj f1
            subst f1'
            exact hq .ret _ (cut ρ2 m) a2 w2 f2 hc2 hs2 hl2
        · exact g1.elim
      · exact g1.elim
    · exact hs.elim
  · exact hs.elim
end Go.Proofs.Ytcplbpnpcmgjfab
