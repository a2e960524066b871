/- Steps, one by one: the loop of Run; contracts of New, Do and Run. New, Do and Run: contracts. Three nodes; so many messages that come: contracts. Three nodes; so many messages that come: contracts. What must be of clusters in any case. A new cluster behind steps: contract. -/
import Derived.Test.YtpkckgdpdnkbeaaDg
namespace Go.Proofs.Ytpkckgdpdnkbeaa
open Go.RowKit
def runK (x : CL) (l : Nat) (sg : Nat → List Value) (vs : List Value) (H : List AObj) (k : AE → List Value → List AObj → Out) : Out :=
  .ask (vs = runV l 0 0 ∧ H = nowA x l sg ∧ Rt x ∧ Wf x ∧ l ≤ 200) (tst (Nat.beq (rN x sg l) 0) (k (.exit 0) [.pointer (some ⟨7, 0, none⟩), .pointer (some ⟨14, 0, none⟩), .int .i64 (rN x sg l)] (nowA x l sg)) (k (.exit 0) [.pointer (some ⟨7, 0, none⟩), .pointer (some ⟨14, 0, none⟩), .int .i64 (rN x sg l)] (nowB x (rC x sg l) l sg)))
def gRunL (vs : List Value) (H : List AObj) (k : AE → List Value → List AObj → Out) : Out :=
  match vs with
  | [_, _, _, .slice _ l _, _, _] => (match H with
    | [.recs _ m w, .recs _ a nd, .recs _ b ak, .recs _ c tm, .recs _ d nt, .recs _ _ sg, .cells _ [_, .int _ need, _, _, _, _, .int _ clk], _, _, _, _, _, _, _, _] => runK ⟨m, w, need, a, nd, b, ak, c, tm, d, nt, clk⟩ l sg vs H k
    | _ => .bad)
  | _ => .bad
def lRun : Nat → Option LCon := oneL 8 (lspec 46 keepRun 15 gRunL)
theorem wrap_n {k n : Nat} (h : k < n) (hn : n ≤ 1000) : inc (k : Int) = ((k + 1 : Nat) : Int) := by
  show IntKind.wrap IntKind.i64 ((k : Int) + 1) = _
  rw [IntKind.wrap_i64]
  omega
theorem run_aux {Φ : Lf} {k : AE → List Value → List AObj → Out} {x : CL} {l : Nat} {sg : Nat → List Value} {vs : List Value} {H : List AObj} (h : (runK x l sg vs H k).sat Φ) : ∃ (ι : Type) (I : ι → List Value) (J : ι → List AObj) (μ : ι → Nat) (i0 : ι), I i0 = vs ∧ J i0 = H ∧
    ∀ i, (ev K36 noL (bodyOf Try.f17 0) ⟨mkSlots 46 (keepRun .normal) (I i), J i⟩ (pkG 46 keepRun 15)).sat fun e S => match e with
      | .normal => ∃ i', S.slots = someL (I i') ∧ S.heap = J i' ∧ μ i' < μ i
      | e => ∃ vs, S.slots = someL vs ∧ (k e vs S.heap).sat Φ := by
  unfold runK at h
  obtain ⟨⟨e1, e2, hR, hW, hl⟩, h⟩ := h
  refine ⟨{j : Nat // j ≤ l}, fun i => runV l (rN x sg i.1) i.1, fun i => bif Nat.beq (rN x sg i.1) 0 then nowA x l sg else nowB x (rC x sg i.1) l sg, fun i => l - i.1, ⟨0, by omega⟩, e1.symm, e2.symm, ?_⟩
  rintro ⟨j, hj⟩
  obtain ⟨r1, -⟩ := rC_rt hR hW sg j
  have h12 := r1.m12
  have ha := r1.am
  have hb := r1.b31
  have hc := r1.cb
  have hd := r1.d200
  have hn := rN_le x sg j
  have key : ∀ now, now = (bif Nat.beq (rN x sg j) 0 then nowA x l sg else nowB x (rC x sg j) l sg) → (runO (rC x sg j) l j (rN x sg j) sg now (fun z => nowB x z l sg)).sat fun e S => match e with
      | .normal => ∃ i' : {j : Nat // j ≤ l}, S.slots = someL (runV l (rN x sg i'.1) i'.1) ∧ S.heap = (bif Nat.beq (rN x sg i'.1) 0 then nowA x l sg else nowB x (rC x sg i'.1) l sg) ∧ l - i'.1 < l - j
      | e => ∃ vs, S.slots = someL vs ∧ (k e vs S.heap).sat Φ := fun now hnow => by
    refine sat_tst (fun ht => ?_) (fun ht => ?_)
    · have hlt : j < l := by have := of_decide_eq_true ht; omega
      refine sat_ask ⟨by omega, by omega⟩ (sat_ask hlt (sat_ask ⟨by omega, by omega⟩ (sat_ask ⟨by omega, by omega⟩ (sat_ask ⟨by omega, by omega⟩ (sat_ask ⟨by omega, by omega⟩ (sat_ask ⟨by omega, by omega⟩ (sat_ask r1 (sat_tst (fun hz => ?_) (fun hz => ?_)))))))))
      · have en : rN x sg (j + 1) = rN x sg j + 1 := by
          show (bif _ then _ else _) = _
          rw [hz]
          rfl
        have ec : rC x sg (j + 1) = afC (rC x sg j) (kS (sg j)) (nS (sg j)) (dS (sg j)) := by
          show (bif _ then _ else _) = _
          rw [hz]
          rfl
        refine ⟨⟨j + 1, by omega⟩, ?_, ?_, by show l - (j + 1) < l - j; omega⟩
        · show someL (runV l (inc (rN x sg j)) (inc (j : Int))) = someL (runV l (rN x sg (j + 1)) ((j + 1 : Nat) : Int))
          rw [en, wrap_n (n := 1000) (by omega) (by omega), wrap_n (n := 1000) (by omega) (by omega)]
        · show nowB x _ l sg = (bif Nat.beq (rN x sg (j + 1)) 0 then _ else _)
          rw [en, ec]
          rfl
      · have en : rN x sg (j + 1) = rN x sg j := by
          show (bif _ then _ else _) = _
          rw [hz]
          rfl
        have ec : rC x sg (j + 1) = rC x sg j := by
          show (bif _ then _ else _) = _
          rw [hz]
          rfl
        refine ⟨⟨j + 1, by omega⟩, ?_, ?_, by show l - (j + 1) < l - j; omega⟩
        · show someL (runV l (rN x sg j) (inc (j : Int))) = someL (runV l (rN x sg (j + 1)) ((j + 1 : Nat) : Int))
          rw [en, wrap_n (n := 1000) (k := j) (by omega) (by omega)]
        · show now = (bif Nat.beq (rN x sg (j + 1)) 0 then _ else _)
          rw [en, ec]
          exact hnow
    · have hge : j = l := by have := of_decide_eq_false ht; omega
      subst hge
      refine ⟨_, rfl, ?_⟩
      show (k (.exit 0) _ now).sat Φ
      rw [hnow]
      rcases tst_sat h with ⟨hz, h⟩ | ⟨hz, h⟩
      · rw [hz]; exact h
      · rw [hz]; exact h
  show (ev K36 noL _ ⟨mkSlots 46 [4, 8, 9, 26, 27, 28] (runV l (rN x sg j) (j : Int)), bif Nat.beq (rN x sg j) 0 then nowA x l sg else nowB x (rC x sg j) l sg⟩ (pkG 46 keepRun 15)).sat _
  cases hz : Nat.beq (rN x sg j) 0 with
  | true =>
    have ez : rC x sg j = x := rN_zero (Nat.eq_of_beq_eq_true hz)
    rw [cond_true, run_A]
    have := key (nowA x l sg) (by rw [hz]; rfl)
    rw [ez] at this
    exact this
  | false =>
    rw [cond_false, run_B]
    exact key _ (by rw [hz]; rfl)
theorem loop_run : LOk K36.P (bodyOf Try.f17 0) (lspec 46 keepRun 15 gRunL) := lspec_ok K36_ok (L := noL) (fun c' _ F h => by cases h) fun Φ vs H k hm0 h => by
  unfold gRunL at h
  split at h
  · split at h
    · exact run_aux h
    · exact h.elim
  · exact h.elim
theorem lRun_ok : ∀ F, lRun (key (bodyOf Try.f17 0)) = some F → LOk K36.P (bodyOf Try.f17 0) F := fun F h => by
  have hk : lRun (key (bodyOf Try.f17 0)) = some (lspec 46 keepRun 15 gRunL) := by kernel_rfl
  rw [hk] at h
  cases h
  exact loop_run
/-- a cluster with an error is handed out -/
def leafG (y : CL) (e : Int) (R : CL) (E : Int) : Out :=
  .ask (y.m = R.m ∧ y.m ≤ y.m ∧ ∀ j, j < R.m → norm wtK (y.w j) = norm wtK (R.w j)) (.ask (Value.int .i64 y.need = .int .i64 R.need) (.ask (y.a = R.a ∧ y.a ≤ y.a ∧ ∀ j, j < R.a → norm cpK (y.nd j) = norm cpK (R.nd j)) (.ask (y.b = R.b ∧ y.b ≤ y.b ∧ ∀ j, j < R.b → norm asK (y.ak j) = norm asK (R.ak j)) (.ask (y.c = R.c ∧ y.c ≤ y.c ∧ ∀ j, j < R.c → norm tmK (y.tm j) = norm tmK (R.tm j)) (.ask (y.d = R.d ∧ y.d ≤ y.d ∧ ∀ j, j < R.d → norm msK (y.nt j) = norm msK (R.nt j)) (.ask (Value.int .i64 y.clk = .int .i64 R.clk) (.ask (Value.int .i64 e = .int .i64 E) (.done .ret ⟨[], []⟩))))))))
theorem leafG_ok (y : CL) (e : Int) : (leafG y e y e).sat TT := sat_ask ⟨rfl, Nat.le_refl _, fun _ _ => rfl⟩ (sat_ask rfl (sat_ask ⟨rfl, Nat.le_refl _, fun _ _ => rfl⟩ (sat_ask ⟨rfl, Nat.le_refl _, fun _ _ => rfl⟩ (sat_ask ⟨rfl, Nat.le_refl _, fun _ _ => rfl⟩ (sat_ask ⟨rfl, Nat.le_refl _, fun _ _ => rfl⟩ (sat_ask rfl (sat_ask rfl sat_end)))))))
abbrev bnds (x : CL) (o : Out) : Out := .ask (x.m + 0 ≤ x.m ∧ x.m ≤ 140737488355328) (.ask (x.a + 0 ≤ x.a ∧ x.a ≤ 140737488355328) (.ask (x.b + 0 ≤ x.b ∧ x.b ≤ 140737488355328) (.ask (x.c + 0 ≤ x.c ∧ x.c ≤ 140737488355328) (.ask (x.d + 0 ≤ x.d ∧ x.d ≤ 140737488355328) o))))
set_option maxRecDepth 100000 in
theorem run_do (x : CL) (kd n : Int) (dt : ByteArray) (R : CL) (E : Int) : evR K36 noL Try.f10 [x.arg, .agg ⟨[.int .i64 kd, .int .i64 n, .string dt]⟩] x.heap [CLK, .one .val] (R.rcs ++ [.val (.int .i64 E)]) =
    bnds x (tst (x.chk != 0) (leafE x.chk R E) (bnds x (.ask (aAft (x.cas ++ [.val (.agg ⟨[.int .i64 kd, .int .i64 n, .string dt]⟩)])) (leafG (afC x kd n dt) (afE x kd n dt) R E)))) := by kernel_rfl
/-- a new cluster -/
def newC (m : Nat) (w : Nat → List Value) (need : Int) : CL := ⟨m, w, need, m, fun _ => [.int .i64 0, .int .i64 0, .string ⟨#[]⟩], 0, fun _ => [], 0, fun _ => [], 0, fun _ => [], 0⟩
set_option maxRecDepth 100000 in
theorem run_new (m : Nat) (w : Nat → List Value) (need : Int) (R : CL) (E : Int) : evR K36 noL Try.f9 [.agg ⟨[.slice (some ⟨0, 0, some 0⟩) m m, .int .i64 need]⟩] [.recs wtK m w] [CLK, .one .val] (R.rcs ++ [.val (.int .i64 E)]) =
    .ask (m + 0 ≤ m ∧ m ≤ 140737488355328) (tst (qE (wsOf m w) need != 0) (leafE (qE (wsOf m w) need) R E) (.ask (0 ≤ (m : Int) ∧ (m : Int) ≤ (m : Int) ∧ 32 * (m : Int) ≤ 281474976710656 ∧ (m : Int) ≤ 9223372036854775807) (.ask (m + 0 ≤ m ∧ m ≤ 140737488355328) (.ask (m + 0 ≤ m ∧ m ≤ 140737488355328) (.ask (aOwn (newC m w need).cas) (leafG (newC m w need) 0 R E)))))) := by kernel_rfl
def doE (x : CL) (kd n : Int) (dt : ByteArray) : Int := bif x.chk != 0 then x.chk else afE x kd n dt
def doC (x : CL) (kd n : Int) (dt : ByteArray) : CL := bif x.chk != 0 then zC else afC x kd n dt
def newE (m : Nat) (w : Nat → List Value) (need : Int) : Int := bif qE (wsOf m w) need != 0 then qE (wsOf m w) need else 0
def newY (m : Nat) (w : Nat → List Value) (need : Int) : CL := bif qE (wsOf m w) need != 0 then zC else newC m w need
def runE (x : CL) (l : Nat) : Int := bif x.chk != 0 then x.chk else bif decide ((l : Int) > 200) then 2 else 0
def runN (x : CL) (l : Nat) (sg : Nat → List Value) : Int := bif x.chk != 0 then 0 else bif decide ((l : Int) > 200) then 0 else (rN x sg l : Int)
def runC (x : CL) (l : Nat) (sg : Nat → List Value) : CL := bif x.chk != 0 then zC else bif decide ((l : Int) > 200) then zC else rC x sg l
def gDo : List CA → Option (List RC)
  | [.rows _ m w, .val (.int .i64 need), .rows _ a nd, .rows _ b ak, .rows _ c tm, .rows _ d nt, .val (.int .i64 clk), .val (.agg ⟨[.int .i64 kd, .int .i64 n, .string dt]⟩)] => some ((doC ⟨m, w, need, a, nd, b, ak, c, tm, d, nt, clk⟩ kd n dt).rcs ++ [.val (.int .i64 (doE ⟨m, w, need, a, nd, b, ak, c, tm, d, nt, clk⟩ kd n dt))])
  | _ => none
def gNew : List CA → Option (List RC)
  | [.rows _ m w, .val (.int .i64 need)] => some ((newY m w need).rcs ++ [.val (.int .i64 (newE m w need))])
  | _ => none
def gRun : List CA → Option (List RC)
  | [.rows _ m w, .val (.int .i64 need), .rows _ a nd, .rows _ b ak, .rows _ c tm, .rows _ d nt, .val (.int .i64 clk), .rows _ l sg] => some ((runC ⟨m, w, need, a, nd, b, ak, c, tm, d, nt, clk⟩ l sg).rcs ++ [.val (.int .i64 (runN ⟨m, w, need, a, nd, b, ak, c, tm, d, nt, clk⟩ l sg)), .val (.int .i64 (runE ⟨m, w, need, a, nd, b, ak, c, tm, d, nt, clk⟩ l))])
  | _ => none
def aRun : List CA → Prop
  | [.rows _ m w, .val (.int .i64 need), .rows _ a nd, .rows _ b ak, .rows _ c tm, .rows _ d nt, .val (.int .i64 clk), _] => Wf ⟨m, w, need, a, nd, b, ak, c, tm, d, nt, clk⟩
  | _ => False
theorem chk_t {x : CL} (h : (x.chk != 0) = false) : Rt x := chk_rt.1 (bne_f2 h)
theorem bnds_ok {x : CL} {o : Out} {Φ : Lf} (h1 : x.m ≤ 140737488355328) (h2 : x.a ≤ 140737488355328) (h3 : x.b ≤ 140737488355328) (h4 : x.c ≤ 140737488355328) (h5 : x.d ≤ 140737488355328) (h : o.sat Φ) : (bnds x o).sat Φ :=
  sat_ask ⟨by omega, h1⟩ (sat_ask ⟨by omega, h2⟩ (sat_ask ⟨by omega, h3⟩ (sat_ask ⟨by omega, h4⟩ (sat_ask ⟨by omega, h5⟩ h))))
theorem do_ok {x : CL} (h1 : x.m ≤ 140737488355328) (h2 : x.a ≤ 140737488355328) (h3 : x.b ≤ 140737488355328) (h4 : x.c ≤ 140737488355328) (h5 : x.d ≤ 140737488355328) (kd n : Int) (dt : ByteArray) :
    (bnds x (tst (x.chk != 0) (leafE x.chk (doC x kd n dt) (doE x kd n dt)) (bnds x (.ask (aAft (x.cas ++ [.val (.agg ⟨[.int .i64 kd, .int .i64 n, .string dt]⟩)])) (leafG (afC x kd n dt) (afE x kd n dt) (doC x kd n dt) (doE x kd n dt)))))).sat TT :=
  bnds_ok h1 h2 h3 h4 h5 (tst_two (A := leafE x.chk) (B := fun R E => bnds x (.ask (aAft (x.cas ++ [.val (.agg ⟨[.int .i64 kd, .int .i64 n, .string dt]⟩)])) (leafG (afC x kd n dt) (afE x kd n dt) R E)))
    (fun _ => leafE_ok _) fun hc => by exact bnds_ok h1 h2 h3 h4 h5 (sat_ask (show Rt x from chk_t hc) (leafG_ok _ _)))
set_option maxRecDepth 100000 in
theorem f_do : FOk K36.P 10 (listG [CLK, stpK] [CLK, stpK] gDo) := list_g K36_ok Try.func10 rfl rfl (no_loops rfl) fun cas rs hb hk h => by
  unfold gDo at h
  split at h
  · rename_i s0 m w need s1 a nd s2 b ak s3 c tm s4 d nt clk kd n dt
    have e0 := kind_rows (i := 0) hk rfl rfl
    subst e0
    have e1 := kind_rows (i := 2) hk rfl rfl
    subst e1
    have e2 := kind_rows (i := 3) hk rfl rfl
    subst e2
    have e3 := kind_rows (i := 4) hk rfl rfl
    subst e3
    have e4 := kind_rows (i := 5) hk rfl rfl
    subst e4
    have b0 := bnd_rows (i := 0) hb rfl
    have b1 := bnd_rows (i := 2) hb rfl
    have b2 := bnd_rows (i := 3) hb rfl
    have b3 := bnd_rows (i := 4) hb rfl
    have b4 := bnd_rows (i := 5) hb rfl
    cases h
    have ok := do_ok (x := ⟨m, w, need, a, nd, b, ak, c, tm, d, nt, clk⟩) b0 b1 b2 b3 b4 kd n dt
    rw [← run_do] at ok
    exact ok
  · cases h
theorem new_ok {m : Nat} {w : Nat → List Value} {need : Int} (hm : m ≤ 140737488355328) : (.ask (m + 0 ≤ m ∧ m ≤ 140737488355328) (tst (qE (wsOf m w) need != 0) (leafE (qE (wsOf m w) need) (newY m w need) (newE m w need)) (.ask (0 ≤ (m : Int) ∧ (m : Int) ≤ (m : Int) ∧ 32 * (m : Int) ≤ 281474976710656 ∧ (m : Int) ≤ 9223372036854775807) (.ask (m + 0 ≤ m ∧ m ≤ 140737488355328) (.ask (m + 0 ≤ m ∧ m ≤ 140737488355328) (.ask (aOwn (newC m w need).cas) (leafG (newC m w need) 0 (newY m w need) (newE m w need))))))) : Out).sat TT :=
  sat_ask ⟨by omega, hm⟩ (tst_two (A := leafE (qE (wsOf m w) need)) (B := fun R E => .ask (0 ≤ (m : Int) ∧ (m : Int) ≤ (m : Int) ∧ 32 * (m : Int) ≤ 281474976710656 ∧ (m : Int) ≤ 9223372036854775807) (.ask (m + 0 ≤ m ∧ m ≤ 140737488355328) (.ask (m + 0 ≤ m ∧ m ≤ 140737488355328) (.ask (aOwn (newC m w need).cas) (leafG (newC m w need) 0 R E)))))
    (fun _ => leafE_ok _) fun hc => by
      have := (qE_m (bne_f2 hc)).1
      rw [ws_len] at this
      exact sat_ask ⟨by omega, by omega, by omega, by omega⟩ (sat_ask ⟨by omega, hm⟩ (sat_ask ⟨by omega, hm⟩ (sat_ask ⟨by show m ≤ 1000; omega, by show m ≤ 1000; omega, Nat.zero_le _, Nat.zero_le _, Nat.zero_le _⟩ (leafG_ok _ _)))))
set_option maxRecDepth 100000 in
theorem f_new : FOk K36.P 9 (listG [.agg [.rows wtK, .val]] [CLK, stpK] gNew) := list_g K36_ok Try.func9 rfl rfl (no_loops rfl) fun cas rs hb hk h => by
  unfold gNew at h
  split at h
  · rename_i s0 m w need
    have e0 := kind_rows (i := 0) hk rfl rfl
    subst e0
    have b0 := bnd_rows (i := 0) hb rfl
    cases h
    have ok := new_ok (w := w) (need := need) b0
    rw [← run_new] at ok
    exact ok
  · cases h
def leafEN (e : Int) (R : CL) (N E : Int) : Out :=
  .ask (R.m = 0) (.ask (Value.int .i64 0 = .int .i64 R.need) (.ask (R.a = 0) (.ask (R.b = 0) (.ask (R.c = 0) (.ask (R.d = 0) (.ask (Value.int .i64 0 = .int .i64 R.clk) (.ask (Value.int .i64 0 = .int .i64 N) (.ask (Value.int .i64 e = .int .i64 E) (.done .ret ⟨[], []⟩)))))))))
def leafGN (y : CL) (n e : Int) (R : CL) (N E : Int) : Out :=
  .ask (y.m = R.m ∧ y.m ≤ y.m ∧ ∀ j, j < R.m → norm wtK (y.w j) = norm wtK (R.w j)) (.ask (Value.int .i64 y.need = .int .i64 R.need) (.ask (y.a = R.a ∧ y.a ≤ y.a ∧ ∀ j, j < R.a → norm cpK (y.nd j) = norm cpK (R.nd j)) (.ask (y.b = R.b ∧ y.b ≤ y.b ∧ ∀ j, j < R.b → norm asK (y.ak j) = norm asK (R.ak j)) (.ask (y.c = R.c ∧ y.c ≤ y.c ∧ ∀ j, j < R.c → norm tmK (y.tm j) = norm tmK (R.tm j)) (.ask (y.d = R.d ∧ y.d ≤ y.d ∧ ∀ j, j < R.d → norm msK (y.nt j) = norm msK (R.nt j)) (.ask (Value.int .i64 y.clk = .int .i64 R.clk) (.ask (Value.int .i64 n = .int .i64 N) (.ask (Value.int .i64 e = .int .i64 E) (.done .ret ⟨[], []⟩)))))))))
theorem leafEN_ok (e : Int) : (leafEN e zC 0 e).sat TT := sat_ask rfl (sat_ask rfl (sat_ask rfl (sat_ask rfl (sat_ask rfl (sat_ask rfl (sat_ask rfl (sat_ask rfl (sat_ask rfl sat_end))))))))
theorem leafGN_ok (y : CL) (n e : Int) : (leafGN y n e y n e).sat TT := sat_ask ⟨rfl, Nat.le_refl _, fun _ _ => rfl⟩ (sat_ask rfl (sat_ask ⟨rfl, Nat.le_refl _, fun _ _ => rfl⟩ (sat_ask ⟨rfl, Nat.le_refl _, fun _ _ => rfl⟩ (sat_ask ⟨rfl, Nat.le_refl _, fun _ _ => rfl⟩ (sat_ask ⟨rfl, Nat.le_refl _, fun _ _ => rfl⟩ (sat_ask rfl (sat_ask rfl (sat_ask rfl sat_end))))))))
set_option maxRecDepth 100000 in
theorem run_run (x : CL) (l : Nat) (sg : Nat → List Value) (R : CL) (N E : Int) : evR K36 lRun Try.f17 [x.arg, .slice (some ⟨5, 0, some 0⟩) l l] (x.heap ++ [.recs spK l sg]) [CLK, .one .val, .one .val] (R.rcs ++ [.val (.int .i64 N), .val (.int .i64 E)]) =
    bnds x (tst (x.chk != 0) (leafEN x.chk R N E) (tst (decide ((l : Int) > 200)) (leafEN 2 R N E) (bnds x (.ask (aOwn x.cas) (.ask (runV l 0 0 = runV l 0 0 ∧ nowA x l sg = nowA x l sg ∧ Rt x ∧ Wf x ∧ l ≤ 200) (tst (Nat.beq (rN x sg l) 0) (leafGN x (rN x sg l) 0 R N E) (leafGN (rC x sg l) (rN x sg l) 0 R N E))))))) := by kernel_rfl
theorem tst_three {c : Bool} {A B : CL → Int → Int → Out} {ra rb : CL} {na nb ea eb : Int} {Φ : Lf} (h1 : c = true → (A ra na ea).sat Φ) (h2 : c = false → (B rb nb eb).sat Φ) : (tst c (A (bif c then ra else rb) (bif c then na else nb) (bif c then ea else eb)) (B (bif c then ra else rb) (bif c then na else nb) (bif c then ea else eb))).sat Φ := by
  cases c
  · exact sat_tst (fun h => by cases h) fun _ => h2 rfl
  · exact sat_tst (fun _ => h1 rfl) fun h => by cases h
theorem run_ok {x : CL} (h1 : x.m ≤ 140737488355328) (h2 : x.a ≤ 140737488355328) (h3 : x.b ≤ 140737488355328) (h4 : x.c ≤ 140737488355328) (h5 : x.d ≤ 140737488355328) (hw : Wf x) (l : Nat) (sg : Nat → List Value) :
    (bnds x (tst (x.chk != 0) (leafEN x.chk (runC x l sg) (runN x l sg) (runE x l)) (tst (decide ((l : Int) > 200)) (leafEN 2 (runC x l sg) (runN x l sg) (runE x l)) (bnds x (.ask (aOwn x.cas) (.ask (runV l 0 0 = runV l 0 0 ∧ nowA x l sg = nowA x l sg ∧ Rt x ∧ Wf x ∧ l ≤ 200) (tst (Nat.beq (rN x sg l) 0) (leafGN x (rN x sg l) 0 (runC x l sg) (runN x l sg) (runE x l)) (leafGN (rC x sg l) (rN x sg l) 0 (runC x l sg) (runN x l sg) (runE x l))))))))).sat TT :=
  bnds_ok h1 h2 h3 h4 h5 (tst_three (A := leafEN x.chk) (B := fun R N E => tst (decide ((l : Int) > 200)) (leafEN 2 R N E) (bnds x (.ask (aOwn x.cas) (.ask (runV l 0 0 = runV l 0 0 ∧ nowA x l sg = nowA x l sg ∧ Rt x ∧ Wf x ∧ l ≤ 200) (tst (Nat.beq (rN x sg l) 0) (leafGN x (rN x sg l) 0 R N E) (leafGN (rC x sg l) (rN x sg l) 0 R N E))))))
    (fun _ => leafEN_ok _) fun hc => tst_three (A := leafEN 2) (B := fun R N E => bnds x (.ask (aOwn x.cas) (.ask (runV l 0 0 = runV l 0 0 ∧ nowA x l sg = nowA x l sg ∧ Rt x ∧ Wf x ∧ l ≤ 200) (tst (Nat.beq (rN x sg l) 0) (leafGN x (rN x sg l) 0 R N E) (leafGN (rC x sg l) (rN x sg l) 0 R N E)))))
      (fun _ => leafEN_ok _) fun hl => by
        have r := chk_t hc
        have h12 := r.m12
        have ha := r.am
        have hb := r.b31
        have hcb := r.cb
        have hd := r.d200
        have hl := of_decide_eq_false hl
        refine bnds_ok h1 h2 h3 h4 h5 (sat_ask ⟨by omega, by omega, by omega, by omega, by omega⟩ (sat_ask ⟨rfl, rfl, r, hw, by omega⟩ (sat_tst (fun hz => ?_) fun _ => leafGN_ok _ _ _)))
        have e := rN_zero (Nat.eq_of_beq_eq_true hz)
        have := leafGN_ok (rC x sg l) (rN x sg l) 0
        rw [e] at this ⊢
        exact this)
set_option maxRecDepth 100000 in
theorem f_run : FOk K36.P 17 (listF [CLK, .one (.rows spK)] [CLK, .one .val, .one .val] aRun gRun) := list_f K36_ok Try.func17 rfl rfl (one_loop (by kernel_rfl) lRun_ok) fun cas rs hb hk ha h => by
  unfold gRun at h
  split at h
  · rename_i s0 m w need s1 a nd s2 b ak s3 c tm s4 d nt clk s5 l sg
    have e0 := kind_rows (i := 0) hk rfl rfl
    subst e0
    have e1 := kind_rows (i := 2) hk rfl rfl
    subst e1
    have e2 := kind_rows (i := 3) hk rfl rfl
    subst e2
    have e3 := kind_rows (i := 4) hk rfl rfl
    subst e3
    have e4 := kind_rows (i := 5) hk rfl rfl
    subst e4
    have e5 := kind_rows (i := 7) hk rfl rfl
    subst e5
    have b0 := bnd_rows (i := 0) hb rfl
    have b1 := bnd_rows (i := 2) hb rfl
    have b2 := bnd_rows (i := 3) hb rfl
    have b3 := bnd_rows (i := 4) hb rfl
    have b4 := bnd_rows (i := 5) hb rfl
    have ha : Wf ⟨m, w, need, a, nd, b, ak, c, tm, d, nt, clk⟩ := ha
    cases h
    have ok := run_ok (x := ⟨m, w, need, a, nd, b, ak, c, tm, d, nt, clk⟩) b0 b1 b2 b3 b4 ha l sg
    rw [← run_run] at ok
    exact ok
  · cases h
noncomputable def K37 : Kn := ((K36.addF 10 (listG [CLK, stpK] [CLK, stpK] gDo)).addF 9 (listG [.agg [.rows wtK, .val]] [CLK, stpK] gNew)).addF 17 (listF [CLK, .one (.rows spK)] [CLK, .one .val, .one .val] aRun gRun)
theorem K37_ok : K37.Ok := ((K36_ok.addF f_do).addF f_new).addF f_run
noncomputable def lPas : Nat → Option LCon := oneL 3 (rounds K37 noL (bodyOf Try.f30 0) 13)
theorem lPas_ok : ∀ F, lPas (key (bodyOf Try.f30 0)) = some F → LOk K37.P (bodyOf Try.f30 0) F := fun F h => by
  have hk : lPas (key (bodyOf Try.f30 0)) = some (rounds K37 noL (bodyOf Try.f30 0) 13) := by kernel_rfl
  rw [hk] at h
  cases h
  exact rounds_ok K37_ok (L := noL) (fun _ _ _ h => by cases h) 13
def pasG : Nat → List Value := fun _ => [.int .i64 3, .int .i64 0, .string ⟨#[]⟩]
def gP : Nat → Nat → List Value
  | 0 => fun _ => []
  | k + 1 => joinG k (gP k) (oneG 3 [.int .i64 3, .int .i64 0, .string ⟨#[]⟩])
theorem gP12 (j : Nat) (hj : j < 12) : norm spK (gP 12 j) = norm spK (pasG j) :=
  match j, hj with
  | 0, _ => rfl | 1, _ => rfl | 2, _ => rfl | 3, _ => rfl | 4, _ => rfl | 5, _ => rfl | 6, _ => rfl | 7, _ => rfl | 8, _ => rfl | 9, _ => rfl | 10, _ => rfl | 11, _ => rfl
  | n + 12, h => by omega
set_option maxRecDepth 100000 in
theorem run_pas : evR K37 lPas Try.f30 [.int .i64 12] [] [.one .val] [.rows 32 spK 12 pasG] = .ask (1 ≤ 1 ∧ 1 ≤ 140737488355328) (.ask (32 ≤ 140737488355328) (.ask (1 ≤ 1) (.ask (1 ≤ 1 ∧ 1 ≤ 140737488355328) (.ask (64 ≤ 140737488355328) (.ask (2 ≤ 2) (.ask (1 ≤ 1 ∧ 1 ≤ 140737488355328) (.ask (96 ≤ 140737488355328) (.ask (3 ≤ 3) (.ask (1 ≤ 1 ∧ 1 ≤ 140737488355328) (.ask (128 ≤ 140737488355328) (.ask (4 ≤ 4) (.ask (1 ≤ 1 ∧ 1 ≤ 140737488355328) (.ask (160 ≤ 140737488355328) (.ask (5 ≤ 5) (.ask (1 ≤ 1 ∧ 1 ≤ 140737488355328) (.ask (192 ≤ 140737488355328) (.ask (6 ≤ 6) (.ask (1 ≤ 1 ∧ 1 ≤ 140737488355328) (.ask (224 ≤ 140737488355328) (.ask (7 ≤ 7) (.ask (1 ≤ 1 ∧ 1 ≤ 140737488355328) (.ask (256 ≤ 140737488355328) (.ask (8 ≤ 8) (.ask (1 ≤ 1 ∧ 1 ≤ 140737488355328) (.ask (288 ≤ 140737488355328) (.ask (9 ≤ 9) (.ask (1 ≤ 1 ∧ 1 ≤ 140737488355328) (.ask (320 ≤ 140737488355328) (.ask (10 ≤ 10) (.ask (1 ≤ 1 ∧ 1 ≤ 140737488355328) (.ask (352 ≤ 140737488355328) (.ask (11 ≤ 11) (.ask (1 ≤ 1 ∧ 1 ≤ 140737488355328) (.ask (384 ≤ 140737488355328) (.ask (12 = 12 ∧ 12 ≤ 12 ∧ ∀ j, j < 12 → norm spK (gP 12 j) = norm spK (pasG j)) (.done .ret ⟨[], []⟩)))))))))))))))))))))))))))))))))))) := by kernel_rfl
def gPas : List CA → Option (List RC)
  | [.val (.int .i64 n)] => (match n with | .ofNat 12 => some [.rows 32 spK 12 pasG] | _ => none)
  | _ => none
theorem f_pas : FOk K37.P 30 (listG [.one .val] [.one .val] gPas) := list_g K37_ok Try.func30 rfl rfl (one_loop (by kernel_rfl) lPas_ok) fun cas rs hb hk h => by
  unfold gPas at h
  split at h
  · split at h
    · cases h
      show (evR K37 lPas _ [.int .i64 12] [] [.one .val] _).sat _
      rw [run_pas]
      exact sat_ask (by decide) (sat_ask (by decide) (sat_ask (by decide) (sat_ask (by decide) (sat_ask (by decide) (sat_ask (by decide) (sat_ask (by decide) (sat_ask (by decide) (sat_ask (by decide) (sat_ask (by decide) (sat_ask (by decide) (sat_ask (by decide) (sat_ask (by decide) (sat_ask (by decide) (sat_ask (by decide) (sat_ask (by decide) (sat_ask (by decide) (sat_ask (by decide) (sat_ask (by decide) (sat_ask (by decide) (sat_ask (by decide) (sat_ask (by decide) (sat_ask (by decide) (sat_ask (by decide) (sat_ask (by decide) (sat_ask (by decide) (sat_ask (by decide) (sat_ask (by decide) (sat_ask (by decide) (sat_ask (by decide) (sat_ask (by decide) (sat_ask (by decide) (sat_ask (by decide) (sat_ask (by decide) (sat_ask (by decide) (sat_ask ⟨rfl, by decide, fun j hj => gP12 j hj⟩ sat_end)))))))))))))))))))))))))))))))))))
    · cases h
  · cases h
def n0_three  : Nat := (3 : Nat)
def g0_three  : Nat → List Value := (litR [[.int .i64 1], [.int .i64 1], [.int .i64 1]])
def x1_three  : Int := (2 : Int)
theorem run_three  : evR K37 noL Try.f29 [] [] [.agg [.val, .val]] [.rows 3 [LK.kInt IntKind.i64] (n0_three) (g0_three), .val (.int .i64 (x1_three))] = Out.ask ((3 : Nat) = n0_three ∧ (3 : Nat) ≤ (3 : Nat) ∧ ∀ j, j < n0_three → norm [LK.kInt IntKind.i64] ((litR [[.int .i64 1], [.int .i64 1], [.int .i64 1]]) j) = norm [LK.kInt IntKind.i64] (g0_three j)) (Out.ask ((Value.int IntKind.i64 (2 : Int) : Value) = .int .i64 (x1_three)) (Out.done .ret ⟨[], []⟩)) := by kernel_rfl
def g_three : List CA → Option (List RC)
  | [] => some [.rows 3 [LK.kInt IntKind.i64] (n0_three) (g0_three), .val (.int .i64 (x1_three))]
  | _ => none
theorem f_three : FOk K37.P 29 (listG [] [.agg [.val, .val]] g_three) := list_g K37_ok Try.func29 rfl rfl (no_loops rfl) fun cas rs _hb _hk h => by
  unfold g_three at h
  split at h
  · cases h
    show (evR K37 noL _ [] [] [.agg [.val, .val]] _).sat _
    rw [run_three]
    exact sat_ask ⟨rfl, Nat.le_refl _, fun j _ => rfl⟩ (sat_ask (rfl) (sat_end))
  · cases h
def forceI (x : Int) (k : Int → Out) : Out := match x with | .ofNat n => k (.ofNat n) | .negSucc n => k (.negSucc n)
def forceS (s : ByteArray) (k : ByteArray → Out) : Out := match s with | ⟨⟨l⟩⟩ => k ⟨⟨l⟩⟩
def forceB (b : Bool) (k : Bool → Out) : Out := match b with | true => k true | false => k false
def forceN (n : Nat) (k : Nat → Out) : Out := match n with | 0 => k 0 | m + 1 => forceN m fun m => k (m + 1)
def forceV (v : Value) (k : Value → Out) : Out :=
  match v with
  | .int kd x => forceI x fun x => k (.int kd x)
  | .string s => forceS s fun s => k (.string s)
  | .bool b => forceB b fun b => k (.bool b)
  | v => k v
def forceC (r : RC) (k : RC → Out) : Out :=
  match r with
  | .val v => forceV v fun v => k (.val v)
  | .rows e sh n g => forceN n fun n => k (.rows e sh n g)
  | r => k r
def forceL : List RC → (List RC → Out) → Out
  | [], k => k []
  | r :: l, k => forceC r fun r => forceL l fun l => k (r :: l)
theorem forceN_eq : ∀ (n : Nat) (k : Nat → Out), forceN n k = k n
  | 0, _ => rfl
  | n + 1, k => forceN_eq n fun m => k (m + 1)
theorem forceV_eq (v : Value) (k : Value → Out) : forceV v k = k v := by
  unfold forceV
  split
  · rename_i x; cases x <;> rfl
  · rename_i s; cases s with | mk d => cases d; rfl
  · rename_i b; cases b <;> rfl
  · rfl
theorem forceC_eq (r : RC) (k : RC → Out) : forceC r k = k r := by
  unfold forceC
  split
  · exact forceV_eq _ _
  · exact forceN_eq _ _
  · rfl
theorem forceL_eq : ∀ (l : List RC) (k : List RC → Out), forceL l k = k l
  | [], _ => rfl
  | r :: l, k => by rw [forceL, forceC_eq, forceL_eq l]
/-- what a function hands out, as numbers at once -/
def listGs (ks rk : List CK) (G : List CA → Option (List RC)) : FCon := fun args H k => argsC ks args H fun l => (match G l with | some rs => forceL rs fun rs => (match Nat.ble (resO rs).length 6 with | true => k (resR rk rs) | false => .bad) | none => .bad)
theorem listGs_eq (ks rk : List CK) (G : List CA → Option (List RC)) : listGs ks rk G = listG ks rk G := by
  funext args H k
  unfold listGs listG
  congr 1
  funext l
  cases G l with
  | none => rfl
  | some rs => exact forceL_eq _ _
theorem gs_ok {P : Program} {f : FuncId} {ks rk : List CK} {G : List CA → Option (List RC)} (h : FOk P f (listG ks rk G)) : FOk P f (listGs ks rk G) := by rw [listGs_eq]; exact h
noncomputable def K38 : Kn := (((K37.addF 30 (listG [.one .val] [.one .val] gPas)).addF 29 (listGs [] [.agg [.val, .val]] g_three)).addF 9 (listGs [.agg [.rows wtK, .val]] [CLK, stpK] gNew)).addF 10 (listGs [CLK, stpK] [CLK, stpK] gDo)
theorem K38_ok : K38.Ok := (((K37_ok.addF f_pas).addF (gs_ok f_three)).addF (gs_ok f_new)).addF (gs_ok f_do)
def gTrue : List CA → Option Value
  | [] => some (.bool true)
  | _ => none
set_option maxRecDepth 100000 in
theorem run_begun : evV K38 noL Try.f13 [] [] = .ask (3 ≤ 3 ∧ 3 ≤ 140737488355328) (.ask (1 ≤ 1) (.ask (12 ≤ 12 ∧ 12 ≤ 140737488355328) (.ask (416 ≤ 140737488355328) (.ask (13 ≤ 13) (.ask (1 ≤ 1 ∧ 1 ≤ 140737488355328) (.ask (448 ≤ 140737488355328) (.ask (14 ≤ 14) (.ask (12 ≤ 12 ∧ 12 ≤ 140737488355328) (.ask (832 ≤ 140737488355328) (.ask (3 ≤ 3 ∧ 3 ≤ 140737488355328) (.ask (3 ≤ 3 ∧ 3 ≤ 140737488355328) (.ask (0 ≤ 0 ∧ 0 ≤ 140737488355328) (.ask (0 ≤ 0 ∧ 0 ≤ 140737488355328) (.ask (0 ≤ 0 ∧ 0 ≤ 140737488355328) (.ask (26 ≤ 26 ∧ 26 ≤ 140737488355328) (.ask (Wf (newC 3 g0_three 2)) (.ask (3 ≤ 3 ∧ 3 ≤ 140737488355328) (.ask (3 ≤ 3 ∧ 3 ≤ 140737488355328) (.ask (0 ≤ 0 ∧ 0 ≤ 140737488355328) (.ask (0 ≤ 0 ∧ 0 ≤ 140737488355328) (.ask (0 ≤ 0 ∧ 0 ≤ 140737488355328) (.ask ((0 : Int) ≤ (0 : Int) ∧ (0 : Int) < (2 : Int)) (.ask ((0 : Nat) < 2) (.ask ((0 : Int) ≤ (1 : Int) ∧ (1 : Int) < (2 : Int)) (.ask ((1 : Nat) < 2) (.ask ((0 : Int) ≤ (1 : Int) ∧ (1 : Int) < (2 : Int)) (.ask ((1 : Nat) < 2) (.ask (3 ≤ 3 ∧ 3 ≤ 140737488355328) (.ask (3 ≤ 3 ∧ 3 ≤ 140737488355328) (.ask (0 ≤ 0 ∧ 0 ≤ 140737488355328) (.ask (0 ≤ 0 ∧ 0 ≤ 140737488355328) (.ask (0 ≤ 0 ∧ 0 ≤ 140737488355328) (.done .ret ⟨[some (.bool true)], []⟩))))))))))))))))))))))))))))))))) := by kernel_rfl
theorem q_begun : QOk K38.P 13 (listC [] gTrue) := list_q K38_ok Try.func13 rfl rfl (no_loops rfl) fun cas r _hb _hk h => by
  unfold gTrue at h
  split at h
  · cases h
    refine ⟨rfl, ?_⟩
    show (evV K38 noL _ [] []).sat _
    rw [run_begun]
    exact sat_ask (by decide) (sat_ask (by decide) (sat_ask (by decide) (sat_ask (by decide) (sat_ask (by decide) (sat_ask (by decide) (sat_ask (by decide) (sat_ask (by decide) (sat_ask (by decide) (sat_ask (by decide) (sat_ask (by decide) (sat_ask (by decide) (sat_ask (by decide) (sat_ask (by decide) (sat_ask (by decide) (sat_ask (by decide) (sat_ask (fun j hj => absurd hj (Nat.not_lt_zero j)) (sat_ask (by decide) (sat_ask (by decide) (sat_ask (by decide) (sat_ask (by decide) (sat_ask (by decide) (sat_ask (by decide) (sat_ask (by decide) (sat_ask (by decide) (sat_ask (by decide) (sat_ask (by decide) (sat_ask (by decide) (sat_ask (by decide) (sat_ask (by decide) (sat_ask (by decide) (sat_ask (by decide) (sat_ask (by decide) (rfl)))))))))))))))))))))))))))))))))
  · cases h
noncomputable def K39 : Kn := K37.addQ 13 (listC [] gTrue)
theorem K39_ok : K39.Ok := K37_ok.addQ q_begun
def leafB (y : CL) (b : Bool) (R : CL) (B : Bool) : Out :=
  .ask (y.m = R.m ∧ y.m ≤ y.m ∧ ∀ j, j < R.m → norm wtK (y.w j) = norm wtK (R.w j)) (.ask (Value.int .i64 y.need = .int .i64 R.need) (.ask (y.a = R.a ∧ y.a ≤ y.a ∧ ∀ j, j < R.a → norm cpK (y.nd j) = norm cpK (R.nd j)) (.ask (y.b = R.b ∧ y.b ≤ y.b ∧ ∀ j, j < R.b → norm asK (y.ak j) = norm asK (R.ak j)) (.ask (y.c = R.c ∧ y.c ≤ y.c ∧ ∀ j, j < R.c → norm tmK (y.tm j) = norm tmK (R.tm j)) (.ask (y.d = R.d ∧ y.d ≤ y.d ∧ ∀ j, j < R.d → norm msK (y.nt j) = norm msK (R.nt j)) (.ask (Value.int .i64 y.clk = .int .i64 R.clk) (.ask (Value.bool b = .bool B) (.done .ret ⟨[], []⟩))))))))
theorem leafB_ok (y : CL) (b : Bool) : (leafB y b y b).sat TT := sat_ask ⟨rfl, Nat.le_refl _, fun _ _ => rfl⟩ (sat_ask rfl (sat_ask ⟨rfl, Nat.le_refl _, fun _ _ => rfl⟩ (sat_ask ⟨rfl, Nat.le_refl _, fun _ _ => rfl⟩ (sat_ask ⟨rfl, Nat.le_refl _, fun _ _ => rfl⟩ (sat_ask ⟨rfl, Nat.le_refl _, fun _ _ => rfl⟩ (sat_ask rfl (sat_ask rfl sat_end)))))))
def ranC (m : Nat) (w : Nat → List Value) (need : Int) (l : Nat) (sg : Nat → List Value) : CL := bif newE m w need != 0 then newY m w need else runC (newY m w need) l sg
def ranB (m : Nat) (w : Nat → List Value) (need : Int) (l : Nat) : Bool := bif newE m w need != 0 then false else runE (newY m w need) l == 0
set_option maxRecDepth 100000 in
theorem run_ran (m : Nat) (w : Nat → List Value) (need : Int) (l : Nat) (sg : Nat → List Value) (R : CL) (B : Bool) : evR K39 noL Try.f19 [.agg ⟨[.slice (some ⟨0, 0, some 0⟩) m m, .int .i64 need]⟩, .slice (some ⟨1, 0, some 0⟩) l l] [.recs wtK m w, .recs spK l sg] [CLK, .one .val] (R.rcs ++ [.val (.bool B)]) =
    .ask (m + 0 ≤ m ∧ m ≤ 140737488355328) (tst (newE m w need != 0) (leafB (newY m w need) false R B) (bnds (newY m w need) (.ask (l + 0 ≤ l ∧ l ≤ 140737488355328) (.ask (Wf (newY m w need)) (leafB (runC (newY m w need) l sg) (runE (newY m w need) l == 0) R B))))) := by kernel_rfl
def gRan : List CA → Option (List RC)
  | [.rows _ m w, .val (.int .i64 need), .rows _ l sg] => some ((ranC m w need l sg).rcs ++ [.val (.bool (ranB m w need l))])
  | _ => none
theorem tst_b {c : Bool} {A B : CL → Bool → Out} {ra rb : CL} {ea eb : Bool} {Φ : Lf} (h1 : c = true → (A ra ea).sat Φ) (h2 : c = false → (B rb eb).sat Φ) : (tst c (A (bif c then ra else rb) (bif c then ea else eb)) (B (bif c then ra else rb) (bif c then ea else eb))).sat Φ := by
  cases c
  · exact sat_tst (fun h => by cases h) fun _ => h2 rfl
  · exact sat_tst (fun _ => h1 rfl) fun h => by cases h
theorem newY_of {m : Nat} {w : Nat → List Value} {need : Int} (h : (newE m w need != 0) = false) : newY m w need = newC m w need ∧ qE (wsOf m w) need = 0 := by
  have h := bne_f2 h
  unfold newE at h
  have h1 := (bif_ne h).1
  unfold newY
  rw [h1]
  exact ⟨rfl, rfl⟩
theorem ran_ok {m : Nat} {w : Nat → List Value} {need : Int} {l : Nat} (sg : Nat → List Value) (hm : m ≤ 140737488355328) (hl : l ≤ 140737488355328) :
    (.ask (m + 0 ≤ m ∧ m ≤ 140737488355328) (tst (newE m w need != 0) (leafB (newY m w need) false (ranC m w need l sg) (ranB m w need l)) (bnds (newY m w need) (.ask (l + 0 ≤ l ∧ l ≤ 140737488355328) (.ask (Wf (newY m w need)) (leafB (runC (newY m w need) l sg) (runE (newY m w need) l == 0) (ranC m w need l sg) (ranB m w need l)))))) : Out).sat TT :=
  sat_ask ⟨by omega, hm⟩ (tst_b (A := leafB (newY m w need) false) (B := fun R B => bnds (newY m w need) (.ask (l + 0 ≤ l ∧ l ≤ 140737488355328) (.ask (Wf (newY m w need)) (leafB (runC (newY m w need) l sg) (runE (newY m w need) l == 0) R B))))
    (fun _ => leafB_ok _ _) fun hc => by
      have e := (newY_of hc).1
      refine bnds_ok ?_ ?_ ?_ ?_ ?_ (sat_ask ⟨by omega, hl⟩ (sat_ask ?_ (leafB_ok _ _)))
      all_goals rw [e]
      · exact hm
      · exact hm
      · exact Nat.zero_le _
      · exact Nat.zero_le _
      · exact Nat.zero_le _
      · exact fun j hj => absurd hj (Nat.not_lt_zero j))
set_option maxRecDepth 100000 in
theorem f_ran : FOk K39.P 19 (listG [.agg [.rows wtK, .val], .one (.rows spK)] [CLK, .one .val] gRan) := list_g K39_ok Try.func19 rfl rfl (no_loops rfl) fun cas rs hb hk h => by
  unfold gRan at h
  split at h
  · rename_i s0 m w need s1 l sg
    have e0 := kind_rows (i := 0) hk rfl rfl
    subst e0
    have e1 := kind_rows (i := 2) hk rfl rfl
    subst e1
    have b0 := bnd_rows (i := 0) hb rfl
    have b1 := bnd_rows (i := 2) hb rfl
    cases h
    have ok := ran_ok (w := w) (need := need) sg b0 b1
    rw [← run_ran] at ok
    exact ok
  · cases h
noncomputable def K40 : Kn := K39.addF 19 (listG [.agg [.rows wtK, .val], .one (.rows spK)] [CLK, .one .val] gRan)
theorem K40_ok : K40.Ok := K39_ok.addF f_ran
theorem K40_P : K40.P = Try.prog := rfl
end Go.Proofs.Ytpkckgdpdnkbeaa
