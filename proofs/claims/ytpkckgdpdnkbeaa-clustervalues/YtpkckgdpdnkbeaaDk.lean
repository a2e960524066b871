/- What is kept by enough nodes: the loop of the law. -/
import Derived.Test.YtpkckgdpdnkbeaaDj
namespace Go.Proofs.Ytpkckgdpdnkbeaa
open Go.RowKit
def keepKe : AE → List Nat
  | .normal => [2, 7, 9, 10]
  | .exit _ => [7, 9]
  | .ret => []
abbrev keH (m l : Nat) (w sg : Nat → List Value) (need : Int) (C : CL) : List AObj := [.recs wtK m w, .recs spK l sg, .cells 24 [.slice (some ⟨0, 0, some 0⟩) m m, .int .i64 need]] ++ rowsAt C ++ [.gone, .cells 30 (clAt C 3)]
/-- the set of the nodes that have what an operation has, or something later -/
def setK (C : CL) (i : Nat) : Nat → Int
  | 0 => 0
  | k + 1 => bif !slt (nSt (C.nd k)) (bS (C.ak i)) then heardN (setK C i k) (k : Int) else setK C i k
def keO (C : CL) (i st : Int) (k : Nat) (H : List AObj) : Out :=
  tst (decide ((k : Int) < (C.a : Int))) (.ask (0 ≤ (k : Int) ∧ (k : Int) < (C.a : Int)) (.ask (k < C.a) (.ask (0 ≤ i ∧ i < (C.b : Int)) (.ask (i.toNat + 0 < C.b) (tst (!slt (nSt (C.nd k)) (bS (C.ak i.toNat)))
    (.ask (0 ≤ (k : Int)) (.done .normal ⟨someL [.int .i64 i, .pointer (some ⟨9, 0, none⟩), .int .u64 (heardN st (k : Int)), .int .i64 (inc (k : Int))], H⟩))
    (.done .normal ⟨someL [.int .i64 i, .pointer (some ⟨9, 0, none⟩), .int .u64 st, .int .i64 (inc (k : Int))], H⟩))))))
    (.done (.exit 0) ⟨someL [.pointer (some ⟨9, 0, none⟩), .int .u64 st], H⟩)
set_option maxRecDepth 100000 in
theorem run_ke (m l k : Nat) (w sg : Nat → List Value) (need i st : Int) (C : CL) : ev K40 noL (bodyOf Try.f8 0) ⟨mkSlots 85 [2, 7, 9, 10] [.int .i64 i, .pointer (some ⟨9, 0, none⟩), .int .u64 st, .int .i64 (k : Int)], keH m l w sg need C⟩ (pkG 85 keepKe 10) = keO C i st k (keH m l w sg need C) := by kernel_rfl
def keK (m l : Nat) (w sg : Nat → List Value) (need i : Int) (C : CL) (vs : List Value) (H : List AObj) (k : AE → List Value → List AObj → Out) : Out :=
  .ask (vs = [.int .i64 i, .pointer (some ⟨9, 0, none⟩), .int .u64 0, .int .i64 0] ∧ H = keH m l w sg need C ∧ 0 ≤ i ∧ i < (C.b : Int) ∧ C.a ≤ 1000) (k (.exit 0) [.pointer (some ⟨9, 0, none⟩), .int .u64 (setK C i.toNat C.a)] H)
def gKeL (vs : List Value) (H : List AObj) (k : AE → List Value → List AObj → Out) : Out :=
  match vs with
  | [.int _ i, _, _, _] => (match H with
    | [.recs _ m w, .recs _ l sg, .cells _ [_, .int _ need], .row _ _ cm cw, .row _ _ ca cnd, .row _ _ cb cak, .row _ _ cc ctm, .row _ _ cd cnt, _, .cells _ [_, .int _ cneed, _, _, _, _, .int _ cclk]] => keK m l w sg need i ⟨cm, cw, cneed, ca, cnd, cb, cak, cc, ctm, cd, cnt, cclk⟩ vs H k
    | _ => .bad)
  | _ => .bad
def lKe : Nat → Option LCon := oneL 8 (lspec 85 keepKe 10 gKeL)
set_option maxRecDepth 100000 in
theorem ke_aux {Φ : Lf} {k : AE → List Value → List AObj → Out} {m l : Nat} {w sg : Nat → List Value} {need i : Int} {C : CL} {vs : List Value} {H : List AObj} (h : (keK m l w sg need i C vs H k).sat Φ) : ∃ (ι : Type) (I : ι → List Value) (J : ι → List AObj) (μ : ι → Nat) (i0 : ι), I i0 = vs ∧ J i0 = H ∧
    ∀ i, (ev K40 noL (bodyOf Try.f8 0) ⟨mkSlots 85 (keepKe .normal) (I i), J i⟩ (pkG 85 keepKe 10)).sat fun e S => match e with
      | .normal => ∃ i', S.slots = someL (I i') ∧ S.heap = J i' ∧ μ i' < μ i
      | e => ∃ vs, S.slots = someL vs ∧ (k e vs S.heap).sat Φ := by
  unfold keK at h
  obtain ⟨⟨rfl, rfl, hi0, hi1, ha⟩, h⟩ := h
  refine ⟨{j : Nat // j ≤ C.a}, fun j => [.int .i64 i, .pointer (some ⟨9, 0, none⟩), .int .u64 (setK C i.toNat j.1), .int .i64 (j.1 : Int)], fun _ => keH m l w sg need C, fun j => C.a - j.1, ⟨0, by omega⟩, rfl, rfl, ?_⟩
  rintro ⟨j, hj⟩
  show (ev K40 noL _ ⟨mkSlots 85 [2, 7, 9, 10] [.int .i64 i, .pointer (some ⟨9, 0, none⟩), .int .u64 (setK C i.toNat j), .int .i64 (j : Int)], keH m l w sg need C⟩ (pkG 85 keepKe 10)).sat _
  rw [run_ke]
  refine sat_tst (fun ht => ?_) (fun ht => ?_)
  · have hlt : j < C.a := by have := of_decide_eq_true ht; omega
    refine sat_ask ⟨by omega, by omega⟩ (sat_ask hlt (sat_ask ⟨hi0, hi1⟩ (sat_ask (by omega) (sat_tst (fun hz => sat_ask (by omega) ?_) (fun hz => ?_)))))
    · have e : setK C i.toNat (j + 1) = heardN (setK C i.toNat j) (j : Int) := by
        show (bif _ then _ else _) = _
        rw [hz]
        rfl
      refine ⟨⟨j + 1, by omega⟩, ?_, rfl, by show C.a - (j + 1) < C.a - j; omega⟩
      show someL [.int .i64 i, .pointer (some ⟨9, 0, none⟩), .int .u64 (heardN (setK C i.toNat j) (j : Int)), .int .i64 (inc (j : Int))] = someL [.int .i64 i, .pointer (some ⟨9, 0, none⟩), .int .u64 (setK C i.toNat (j + 1)), .int .i64 ((j + 1 : Nat) : Int)]
      rw [e, wrap_n (n := 1000) (k := j) (by omega) (by omega)]
    · have e : setK C i.toNat (j + 1) = setK C i.toNat j := by
        show (bif _ then _ else _) = _
        rw [hz]
        rfl
      refine ⟨⟨j + 1, by omega⟩, ?_, rfl, by show C.a - (j + 1) < C.a - j; omega⟩
      show someL [.int .i64 i, .pointer (some ⟨9, 0, none⟩), .int .u64 (setK C i.toNat j), .int .i64 (inc (j : Int))] = someL [.int .i64 i, .pointer (some ⟨9, 0, none⟩), .int .u64 (setK C i.toNat (j + 1)), .int .i64 ((j + 1 : Nat) : Int)]
      rw [e, wrap_n (n := 1000) (k := j) (by omega) (by omega)]
  · have hge : j = C.a := by have := of_decide_eq_false ht; omega
    subst hge
    exact ⟨_, rfl, h⟩
theorem loop_ke : LOk K40.P (bodyOf Try.f8 0) (lspec 85 keepKe 10 gKeL) := lspec_ok K40_ok (L := noL) (fun c' _ F h => by cases h) fun Φ vs H k hm0 h => by
  unfold gKeL at h
  split at h
  · split at h
    · exact ke_aux h
    · exact h.elim
  · exact h.elim
theorem lKe_ok : ∀ F, lKe (key (bodyOf Try.f8 0)) = some F → LOk K40.P (bodyOf Try.f8 0) F := fun F h => by
  have hk : lKe (key (bodyOf Try.f8 0)) = some (lspec 85 keepKe 10 gKeL) := by kernel_rfl
  rw [hk] at h
  cases h
  exact loop_ke
theorem heard_wf {h : Int} (hw : (Lit.int .u64 h).wf = true) {k : Nat} (hk : k < 64) : (Lit.int .u64 (heardN h (k : Int))).wf = true := by
  obtain ⟨a, rfl, ha⟩ := wf_nat hw
  rw [heard_nat ha hk]
  have : a ||| 2 ^ k < 2 ^ 64 := Nat.or_lt_two_pow ha (Nat.pow_lt_pow_right (by decide) hk)
  unfold Lit.wf
  rw [Bool.and_eq_true]
  refine ⟨decide_eq_true (by show (0 : Int) ≤ _; omega), decide_eq_true ?_⟩
  show ((a ||| 2 ^ k : Nat) : Int) ≤ 18446744073709551615
  omega
theorem setK_ok (C : CL) (i : Nat) {M : Nat} (hM : M ≤ 12) : ∀ k, k ≤ M → (Lit.int .u64 (setK C i k)).wf = true ∧ shrV .u64 (setK C i k) M = 0 ∧ ∀ n, n < k → sle (bS (C.ak i)) (nSt (C.nd n)) → btR (setK C i k) (n : Int) = 1
  | 0, _ => ⟨by show (Lit.int .u64 0).wf = true; decide, zero_shr M, fun n hn => absurd hn (Nat.not_lt_zero n)⟩
  | k + 1, hk => by
    obtain ⟨h1, h2, h3⟩ := setK_ok C i hM k (by omega)
    unfold setK
    cases hz : (!slt (nSt (C.nd k)) (bS (C.ak i))) with
    | true =>
      simp only [cond_true]
      refine ⟨heard_wf h1 (by omega), ?_, fun n hn hs => ?_⟩
      · obtain ⟨a, ea, ha⟩ := wf_nat h1
        rw [ea] at h2 ⊢
        exact heard_shr ha hM (by omega) h2
      · refine (bt_heard (k := k) (n := n) h1 (by omega) (by omega)).2 ?_
        by_cases e : n = k
        · exact .inr e
        · exact .inl (h3 n (by omega) hs)
    | false =>
      simp only [cond_false]
      refine ⟨h1, h2, fun n hn hs => ?_⟩
      by_cases e : n = k
      · subst e
        rw [show slt (nSt (C.nd n)) (bS (C.ak i)) = false from hs] at hz
        cases hz
      · exact h3 n (by omega) hs
theorem sm_mono {L : List Int} (h : anyB L = false) {s t : Int} : ∀ k, k ≤ L.length → (∀ n, n < k → btR s (n : Int) = 1 → btR t (n : Int) = 1) → smK L s k ≤ smK L t k
  | 0, _, _ => by simp [smK]
  | k + 1, hk, hd => by
    have ih := sm_mono h k (by omega) fun n hn => hd n (by omega)
    have hpos : 0 ≤ L[k]?.getD 0 := by
      rw [List.getElem?_eq_getElem (by omega)]
      have hm : L[k] ∈ L := List.getElem_mem _
      have : wBad L[k] = false := by
        have := List.any_eq_false.1 h _ hm
        simpa using this
      have := of_decide_eq_false this
      show 0 ≤ L[k]
      omega
    unfold smK
    by_cases h1 : btR s (k : Int) = 1
    · rw [if_pos h1, if_pos (hd k (by omega) h1)]
      omega
    · rw [if_neg h1]
      split <;> omega
theorem enough_all {m : Nat} {w : Nat → List Value} {need s : Int} (hq : qE (wsOf m w) need = 0) (hs : shrV .u64 s m = 0) (h : need ≤ smK (wsOf m w) s (wsOf m w).length) : x0_enough m w need s = true ∧ x1_enough m w need s = 0 := by
  have hm := qE_m hq
  have hl := ws_len m w
  have hwE : wE (wsOf m w) = 0 := by
    unfold wE
    rw [if_neg (by omega), if_neg (by omega), if_neg (by rw [hm.2.2.1]; decide)]
  have e : (qE (wsOf m fun j => w j) need != 0) = false := by rw [show qE (wsOf m fun j => w j) need = 0 from hq]; rfl
  have es : sE (wsOf m w) s = 0 := by
    unfold sE
    rw [if_neg (by rw [hwE]; decide), hl, if_neg (by rw [hs]; decide)]
  constructor
  · unfold x0_enough
    rw [e, cond_false]
    refine decide_eq_true ?_
    show sV (wsOf m w) s ≥ need
    unfold sV
    rw [if_pos es]
    exact h
  · unfold x1_enough
    rw [e, cond_false]
    exact es
end Go.Proofs.Ytpkckgdpdnkbeaa
