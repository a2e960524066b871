/- Bids checked, votes to all, by the reference. -/
import Derived.Test.YtbmbnbhedalcnabNb
import Derived.Test.YtbmbnbhedalcnabEa
namespace Go.Proofs.Ytbmbnbhedalcnab
open Go.RowKit
-- @file pc.out
theorem run_rcbid (m : Nat) (g : Nat → List Value) (need : Int) (a : Int) (p : Int) (o : ByteArray) (v : ByteArray) (t : Int) (w : Int) (s : ByteArray) (hd : Int) : evV K30 noL Try.f19 [.agg ⟨[.slice (some ⟨0, 0, some 0⟩) m m, .int .i64 need]⟩, .agg ⟨[.int .i64 a, .int .i64 p, .string o, .string v, .int .i64 t, .int .i64 w, .string s, .int .u64 hd]⟩] [.recs wtK m g] = Out.ask (m ≤ m ∧ m ≤ (140737488355328 : Nat)) (tst (x_rqc m (fun j => g j) need != (0 : Int)) (Out.done AE.ret { slots := [some (Value.int IntKind.i64 (x_rqc m (fun j => g j) need))], heap := [] }) (tst (decide (a < (1 : Int))) (Out.done AE.ret { slots := [some (Value.int IntKind.i64 (3 : Int))], heap := [] }) (tst (decide (a > (1000000 : Int))) (Out.done AE.ret { slots := [some (Value.int IntKind.i64 (3 : Int))], heap := [] }) (tst (decide (p < (1 : Int))) (Out.done AE.ret { slots := [some (Value.int IntKind.i64 (7 : Int))], heap := [] }) (tst (decide (p > (3 : Int))) (Out.done AE.ret { slots := [some (Value.int IntKind.i64 (7 : Int))], heap := [] }) (tst (decide ((↑(ByteArray.size o) : Int) > (64 : Int))) (Out.done AE.ret { slots := [some (Value.int IntKind.i64 (2 : Int))], heap := [] }) (tst (decide ((↑(ByteArray.size v) : Int) > (64 : Int))) (Out.done AE.ret { slots := [some (Value.int IntKind.i64 (2 : Int))], heap := [] }) (tst (x_rcc t w s != (0 : Int)) (Out.done AE.ret { slots := [some (Value.int IntKind.i64 (x_rcc t w s))], heap := [] }) (Out.ask ((0 : Int) ≤ (↑m : Int)) (tst (decide (hd ≥ shlV IntKind.u64 (1 : Int) (↑m : Int))) (Out.done AE.ret { slots := [some (Value.int IntKind.i64 (3 : Int))], heap := [] }) (Out.done AE.ret { slots := [some (Value.int IntKind.i64 (0 : Int))], heap := [] }))))))))))) := by kernel_rfl
def x_rcbid (m : Nat) (g : Nat → List Value) (need : Int) (a : Int) (p : Int) (o : ByteArray) (v : ByteArray) (t : Int) (w : Int) (s : ByteArray) (hd : Int) : Int := (bif x_rqc m (fun j => g j) need != (0 : Int) then (x_rqc m (fun j => g j) need) else (bif decide (a < (1 : Int)) then (3 : Int) else (bif decide (a > (1000000 : Int)) then (3 : Int) else (bif decide (p < (1 : Int)) then (7 : Int) else (bif decide (p > (3 : Int)) then (7 : Int) else (bif decide ((↑(ByteArray.size o) : Int) > (64 : Int)) then (2 : Int) else (bif decide ((↑(ByteArray.size v) : Int) > (64 : Int)) then (2 : Int) else (bif x_rcc t w s != (0 : Int) then (x_rcc t w s) else (bif decide (hd ≥ shlV IntKind.u64 (1 : Int) (↑m : Int)) then (3 : Int) else (0 : Int))))))))))
def g_rcbid : List CA → Option Value
  | [.rows _ m g, .val (.int .i64 need), .val (.agg ⟨[.int .i64 a, .int .i64 p, .string o, .string v, .int .i64 t, .int .i64 w, .string s, .int .u64 hd]⟩)] => some (.int .i64 (x_rcbid m g need a p o v t w s hd))
  | _ => none
theorem q_rcbid : QOk K30.P 19 (listC [.agg [.rows wtK, .val], .one .val] g_rcbid) := list_q K30_ok Try.func19 rfl rfl (no_loops rfl) fun cas r hb hk h => by
  unfold g_rcbid at h
  split at h
  · rename_i sh0 m g need a p o v t w s hd
    have e0 := kind_rows (i := 0) hk rfl rfl
    have hbm := bnd_rows (i := 0) hb rfl
    subst e0
    cases h
    refine ⟨rfl, ?_⟩
    show (evV K30 noL _ [.agg ⟨[.slice (some ⟨0, 0, some 0⟩) m m, .int .i64 need]⟩, .agg ⟨[.int .i64 a, .int .i64 p, .string o, .string v, .int .i64 t, .int .i64 w, .string s, .int .u64 hd]⟩] [.recs wtK m g]).sat _
    rw [run_rcbid]
    exact sat_ask (by first | omega | exact ⟨Nat.le_refl _, by assumption⟩ | exact ⟨rfl, rfl⟩ | simp_all) (sat_tst (fun h0 => leaf_v (by simp only [x_rcbid, h0, cond_true])) (fun h0 => sat_tst (fun h1 => leaf_v (by simp only [x_rcbid, h0, h1, cond_true, cond_false])) (fun h1 => sat_tst (fun h2 => leaf_v (by simp only [x_rcbid, h0, h1, h2, cond_true, cond_false])) (fun h2 => sat_tst (fun h3 => leaf_v (by simp only [x_rcbid, h0, h1, h2, h3, cond_true, cond_false])) (fun h3 => sat_tst (fun h4 => leaf_v (by simp only [x_rcbid, h0, h1, h2, h3, h4, cond_true, cond_false])) (fun h4 => sat_tst (fun h5 => leaf_v (by simp only [x_rcbid, h0, h1, h2, h3, h4, h5, cond_true, cond_false])) (fun h5 => sat_tst (fun h6 => leaf_v (by simp only [x_rcbid, h0, h1, h2, h3, h4, h5, h6, cond_true, cond_false])) (fun h6 => sat_tst (fun h7 => leaf_v (by simp only [x_rcbid, h0, h1, h2, h3, h4, h5, h6, h7, cond_true, cond_false])) (fun h7 => sat_ask (by first | omega | exact ⟨Nat.le_refl _, by assumption⟩ | exact ⟨rfl, rfl⟩ | simp_all) (sat_tst (fun h8 => leaf_v (by simp only [x_rcbid, h0, h1, h2, h3, h4, h5, h6, h7, h8, cond_true, cond_false])) (fun h8 => leaf_v (by simp only [x_rcbid, h0, h1, h2, h3, h4, h5, h6, h7, h8, cond_false]))))))))))))
  · cases h
-- @end
-- @file pc.chain
noncomputable def K31 : Kn := K30.addQ 19 (listC [.agg [.rows wtK, .val], .one .val] g_rcbid)
theorem K31_ok : K31.Ok := K30_ok.addQ q_rcbid
-- @end
def vG (a b t w : Int) (s : ByteArray) (j : Nat) : List Value := vtC a b (j : Int) t w s
def keepEN : AE → List Nat
  | .normal => [0, 3, 5, 6]
  | .exit _ => [5]
  | .ret => []
/-- the messages to the first k -/
def enG (a b t w : Int) (s : ByteArray) : Nat → Nat → List Value
  | 0 => fun _ => []
  | k + 1 => joinG k (enG a b t w s k) (litR [vtC a b (k : Int) t w s])
def enS (n : Int) : Nat → List Value
  | 0 => [.int .i64 n, .pointer (some ⟨0, 0, none⟩), .slice none 0 0, .int .i64 0]
  | k + 1 => [.int .i64 n, .pointer (some ⟨0, 0, none⟩), .slice (some ⟨1, 0, some 0⟩) (k + 1) (k + 1), .int .i64 ((k + 1 : Nat) : Int)]
def enH (T : Nat) (a b c t w : Int) (s : ByteArray) : Nat → List AObj
  | 0 => [.cells T [.int .i64 a, .int .i64 b, .int .i64 c, .int .i64 t, .int .i64 w, .string s]]
  | k + 1 => [.cells T [.int .i64 a, .int .i64 b, .int .i64 (k : Int), .int .i64 t, .int .i64 w, .string s], .row 29 vtK (k + 1) (enG a b t w s (k + 1))]
def gENL : List Value → List AObj → (AE → List Value → List AObj → Out) → Out
  | [.int .i64 n, .pointer (some ⟨0, 0, none⟩), .slice none 0 0, .int .i64 i], [.cells T [.int .i64 a, .int .i64 b, .int .i64 c, .int .i64 t, .int .i64 w, .string s]], kk =>
    .ask (i = 0 ∧ 1 ≤ n ∧ n ≤ 12) (kk (.exit 0) [.slice (some ⟨1, 0, some 0⟩) (n.toNat - 1 + 1) (n.toNat - 1 + 1)] (enH T a b c t w s (n.toNat - 1 + 1)))
  | _, _, _ => .bad
def lEN : Nat → Option LCon := oneL 3 (lspec 19 keepEN 1 gENL)
theorem run_en0 (T : Nat) (n a b c t w : Int) (s : ByteArray) : ev K31 noL (bodyOf Try.f41 0) ⟨mkSlots 19 [0, 3, 5, 6] (enS n 0), enH T a b c t w s 0⟩ (pkG 19 keepEN 1) =
    tst (decide ((0 : Int) < n)) (.ask (1 ≤ 1 ∧ 1 ≤ 140737488355328) (.ask (56 ≤ 140737488355328) (.done .normal ⟨someL (enS n 1), enH T a b c t w s 1⟩))) (.done (.exit 0) ⟨someL [.slice none 0 0], enH T a b c t w s 0⟩) := by kernel_rfl
theorem run_en1 (T k : Nat) (n a b c t w : Int) (s : ByteArray) : ev K31 noL (bodyOf Try.f41 0) ⟨mkSlots 19 [0, 3, 5, 6] (enS n (k + 1)), enH T a b c t w s (k + 1)⟩ (pkG 19 keepEN 1) =
    tst (decide (((k + 1 : Nat) : Int) < n)) (.ask (k + 1 ≤ k + 1) (.ask (1 ≤ 1 ∧ 1 ≤ 140737488355328) (.ask ((k + 1 + 1) * 56 ≤ 140737488355328) (.done .normal ⟨someL [.int .i64 n, .pointer (some ⟨0, 0, none⟩), .slice (some ⟨1, 0, some 0⟩) (k + 1 + 1) (k + 1 + 1), .int .i64 (IntKind.wrap .i64 (((k + 1 : Nat) : Int) + 1))], enH T a b c t w s (k + 1 + 1)⟩))))
      (.done (.exit 0) ⟨someL [.slice (some ⟨1, 0, some 0⟩) (k + 1) (k + 1)], enH T a b c t w s (k + 1)⟩) := by kernel_rfl
theorem loop_en : LOk K31.P (bodyOf Try.f41 0) (lspec 19 keepEN 1 gENL) := lspec_ok K31_ok (L := noL) (fun c' _ F h => by cases h) fun Φ vs H kk hm0 h => by
  unfold gENL at h
  split at h
  · rename_i n i T a b c t w s
    obtain ⟨⟨rfl, hn1, hn2⟩, h⟩ := h
    obtain ⟨N, rfl⟩ : ∃ N : Nat, n = ((N + 1 : Nat) : Int) := ⟨n.toNat - 1, by omega⟩
    rw [Int.toNat_natCast, Nat.add_sub_cancel] at h
    refine ⟨{j : Nat // j ≤ N + 1}, fun i => enS ((N + 1 : Nat) : Int) i.1, fun i => enH T a b c t w s i.1, fun i => N + 1 - i.1, ⟨0, by omega⟩, rfl, rfl, ?_⟩
    rintro ⟨j, hj⟩
    show (ev K31 noL _ ⟨mkSlots 19 [0, 3, 5, 6] (enS ((N + 1 : Nat) : Int) j), enH T a b c t w s j⟩ (pkG 19 keepEN 1)).sat _
    cases j with
    | zero =>
      rw [run_en0]
      refine sat_tst (fun _ => sat_ask ⟨by omega, by omega⟩ (sat_ask (by decide) ⟨⟨1, by omega⟩, rfl, rfl, by show N + 1 - 1 < N + 1 - 0; omega⟩)) (fun ht => ?_)
      have := of_decide_eq_false ht
      omega
    | succ k =>
      rw [run_en1]
      refine sat_tst (fun ht => ?_) (fun ht => ?_)
      · have ht := of_decide_eq_true ht
        refine sat_ask (Nat.le_refl _) (sat_ask ⟨by omega, by omega⟩ (sat_ask (by omega) ⟨⟨k + 1 + 1, by omega⟩, ?_, rfl, by show N + 1 - (k + 1 + 1) < N + 1 - (k + 1); omega⟩))
        rw [show IntKind.wrap .i64 (((k + 1 : Nat) : Int) + 1) = ((k + 1 + 1 : Nat) : Int) from by rw [IntKind.wrap_i64]; omega]
        rfl
      · have ht := of_decide_eq_false ht
        obtain rfl : k = N := by omega
        exact ⟨_, rfl, h⟩
  · exact h.elim
theorem lEN_ok : ∀ F, lEN (key (bodyOf Try.f41 0)) = some F → LOk K31.P (bodyOf Try.f41 0) F := fun F h => by
  have hk : lEN (key (bodyOf Try.f41 0)) = some (lspec 19 keepEN 1 gENL) := by kernel_rfl
  rw [hk] at h
  cases h
  exact loop_en
theorem enG_at (a b t w : Int) (s : ByteArray) : ∀ {n j : Nat}, j < n → enG a b t w s n j = vG a b t w s j
  | n + 1, j, hj => by
    show (bif Nat.blt j n then enG a b t w s n j else litR [vtC a b (n : Int) t w s] (j - n)) = _
    by_cases e : j < n
    · rw [show Nat.blt j n = true from by rw [Nat.blt_eq]; exact e]
      exact enG_at a b t w s e
    · obtain rfl : j = n := by omega
      rw [show Nat.blt j j = false from by
        cases e : Nat.blt j j with
        | false => rfl
        | true => rw [Nat.blt_eq] at e; omega, Nat.sub_self]
      rfl
def aEN : List CA → Prop
  | [.val (.int _ n), _] => 1 ≤ n ∧ n ≤ 12
  | _ => False
def gEN : List CA → Option (List RC)
  | [.val (.int .i64 n), .val (.agg ⟨[.int .i64 a, .int .i64 b, .int .i64 _, .int .i64 t, .int .i64 w, .string s]⟩)] => some [.rows 29 vtK n.toNat (vG a b t w s)]
  | _ => none
theorem run_en (n a b c t w : Int) (s : ByteArray) : evR K31 lEN Try.f41 [.int .i64 n, .agg ⟨[.int .i64 a, .int .i64 b, .int .i64 c, .int .i64 t, .int .i64 w, .string s]⟩] [] [.one .val] [.rows 29 vtK n.toNat (vG a b t w s)] =
    .ask ((0 : Int) = 0 ∧ 1 ≤ n ∧ n ≤ 12) (.ask (n.toNat - 1 + 1 = n.toNat ∧ n.toNat - 1 + 1 ≤ n.toNat - 1 + 1 ∧ ∀ j, j < n.toNat → norm vtK (enG a b t w s (n.toNat - 1 + 1) j) = norm vtK (vG a b t w s j)) (.done .ret ⟨[], []⟩)) := by kernel_rfl
theorem f_en : FOk K31.P 41 (listF [.one .val, .one .val] [.one .val] aEN gEN) := list_f K31_ok Try.func41 rfl rfl (one_loop (by kernel_rfl) lEN_ok) fun cas rs hb hk ha h => by
  unfold gEN at h
  split at h
  · rename_i n a b c t w s
    obtain ⟨h1, h2⟩ : 1 ≤ n ∧ n ≤ 12 := ha
    cases h
    show (evR K31 lEN _ [.int .i64 n, .agg ⟨[.int .i64 a, .int .i64 b, .int .i64 c, .int .i64 t, .int .i64 w, .string s]⟩] [] [.one .val] _).sat _
    rw [run_en]
    have e : n.toNat - 1 + 1 = n.toNat := by omega
    exact sat_ask ⟨rfl, h1, h2⟩ (sat_ask ⟨e, Nat.le_refl _, fun j hj => by rw [e, enG_at a b t w s hj]⟩ sat_end)
  · cases h
noncomputable def K32 : Kn := K31.addF 41 (listF [.one .val, .one .val] [.one .val] aEN gEN)
theorem K32_ok : K32.Ok := K31_ok.addF f_en
theorem cz1 {b : Bool} {c r : Int} (hc : c ≠ 0) : ((bif b then c else r) = 0) ↔ (b = false ∧ r = 0) := by
  cases b
  · simp
  · simpa using hc
theorem cz2 {q r : Int} : ((bif q != 0 then q else r) = 0) ↔ (q = 0 ∧ r = 0) := by
  by_cases h : q = 0
  · subst h; simp
  · have : (q != 0) = true := by simpa using h
    rw [this]; simp [h]
theorem shl_nat {k : Nat} (h : k < 64) : shlV .u64 1 (k : Int) = ((2 ^ k : Nat) : Int) := by
  unfold shlV
  rw [show min ((k : Int).toNat) (IntKind.bits .u64) = k from by rw [Int.toNat_natCast]; exact Nat.min_eq_left (show k ≤ 64 by omega)]
  have hlt : 2 ^ k < 18446744073709551616 := Nat.pow_lt_pow_right (a := 2) (n := 64) (by decide) h
  rw [Int.one_mul, show (2 : Int) ^ k = ((2 ^ k : Nat) : Int) from by rw [Int.natCast_pow]; rfl]
  exact wrap_nat hlt
theorem wf_nat {h : Int} (hw : (Lit.int .u64 h).wf = true) : ∃ a : Nat, h = a ∧ a < 18446744073709551616 := by
  have hw : IntKind.u64.min ≤ h ∧ h ≤ IntKind.u64.max := by simpa [Lit.wf] using hw
  have e1 : IntKind.u64.min = 0 := by decide
  have e2 : IntKind.u64.max = 18446744073709551615 := by decide
  rw [e1, e2] at hw
  exact ⟨h.toNat, by omega, by omega⟩
theorem rcbid_eq {m : Nat} {g : Nat → List Value} {need a p : Int} {o v : ByteArray} {t w : Int} {s : ByteArray} {hd : Int} (hw : (Lit.int .u64 hd).wf = true) : x_rcbid m g need a p o v t w s hd = x_cbid m g need a p o v t w s hd := by
  unfold x_rcbid x_cbid
  have eta : (wsOf m fun j => g j) = wsOf m g := rfl
  rw [rqc_eq, rcc_eq, eta]
  cases hq : (qE (wsOf m g) need != 0) with
  | true => rfl
  | false =>
    have hm : m ≤ 12 := by
      have := (qE_m (by simpa using hq)).1
      rw [ws_len] at this
      exact this
    have e3 : decide (hd ≥ shlV .u64 1 (m : Int)) = (shrV .u64 hd m != 0) := by
      obtain ⟨n, rfl, hn⟩ := wf_nat hw
      rw [shl_nat (by omega), shr_nat _ _ (by omega)]
      have hp : 0 < 2 ^ m := Nat.two_pow_pos m
      by_cases hh : n < 2 ^ m
      · rw [Nat.div_eq_of_lt hh, decide_eq_false (by omega)]
        rfl
      · have : n / 2 ^ m ≠ 0 := fun e => hh ((Nat.div_eq_zero_iff_lt hp).1 e)
        rw [decide_eq_true (by omega)]
        symm
        simp only [bne_iff_ne, ne_eq]
        omega
    rw [e3]
theorem rcbid_n {m : Nat} {g : Nat → List Value} {need a p : Int} {o v : ByteArray} {t w : Int} {s : ByteArray} {hd : Int} (h : (x_rcbid m g need a p o v t w s hd != 0) = false) : (1 : Int) ≤ (m : Int) ∧ (m : Int) ≤ 12 := by
  have h : x_rcbid m g need a p o v t w s hd = 0 := by simpa using h
  unfold x_rcbid at h
  have eta : (fun j => g j) = g := rfl
  rw [rqc_eq, eta, cz2] at h
  have := qE_m h.1
  rw [ws_len] at this
  omega
end Go.Proofs.Ytbmbnbhedalcnab
