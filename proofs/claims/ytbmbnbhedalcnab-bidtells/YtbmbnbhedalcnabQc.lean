/- Bids checked, votes to all, the latest of copies, by the reference. -/
import Derived.Test.YtbmbnbhedalcnabQa
import Derived.Test.YtbmbnbhedalcnabEa
namespace Go.Proofs.Ytbmbnbhedalcnab
open Go.RowKit
-- @file pc.out
theorem run_rcbid (m : Nat) (g : Nat → List Value) (need : Int) (a : Int) (p : Int) (o : ByteArray) (v : ByteArray) (t : Int) (w : Int) (s : ByteArray) (hd : Int) : evV K30 noL Try.f19 [.agg ⟨[.slice (some ⟨0, 0, some 0⟩) m m, .int .i64 need]⟩, .agg ⟨[.int .i64 a, .int .i64 p, .string o, .string v, .int .i64 t, .int .i64 w, .string s, .int .u64 hd]⟩] [.recs wtK m g] = Out.ask (m ≤ m ∧ m ≤ (140737488355328 : Nat)) (tst (x_rqc m (fun j => g j) need != (0 : Int)) (Out.done AE.ret { slots := [some (Value.int IntKind.i64 (x_rqc m (fun j => g j) need))], heap := [] }) (tst (decide (a < (1 : Int))) (Out.done AE.ret { slots := [some (Value.int IntKind.i64 (3 : Int))], heap := [] }) (tst (decide (a > (1000000 : Int))) (Out.done AE.ret { slots := [some (Value.int IntKind.i64 (3 : Int))], heap := [] }) (tst (decide (p < (1 : Int))) (Out.done AE.ret { slots := [some (Value.int IntKind.i64 (7 : Int))], heap := [] }) (tst (decide (p > (3 : Int))) (Out.done AE.ret { slots := [some (Value.int IntKind.i64 (7 : Int))], heap := [] }) (tst (decide ((↑(ByteArray.size o) : Int) > (64 : Int))) (Out.done AE.ret { slots := [some (Value.int IntKind.i64 (2 : Int))], heap := [] }) (tst (decide ((↑(ByteArray.size v) : Int) > (64 : Int))) (Out.done AE.ret { slots := [some (Value.int IntKind.i64 (2 : Int))], heap := [] }) (tst (x_rcc t w s != (0 : Int)) (Out.done AE.ret { slots := [some (Value.int IntKind.i64 (x_rcc t w s))], heap := [] }) (Out.ask ((0 : Int) ≤ (↑m : Int)) (tst (decide (hd ≥ shlV IntKind.u64 (1 : Int) (↑m : Int))) (Out.done AE.ret { slots := [some (Value.int IntKind.i64 (3 : Int))], heap := [] }) (Out.done AE.ret { slots := [some (Value.int IntKind.i64 (0 : Int))], heap := [] }))))))))))) := by kernel_rfl
def x_rcbid (m : Nat) (g : Nat → List Value) (need : Int) (a : Int) (p : Int) (o : ByteArray) (v : ByteArray) (t : Int) (w : Int) (s : ByteArray) (hd : Int) : Int := (bif x_rqc m (fun j => g j) need != (0 : Int) then (x_rqc m (fun j => g j) need) else (bif decide (a < (1 : Int)) then (3 : Int) else (bif decide (a > (1000000 : Int)) then (3 : Int) else (bif decide (p < (1 : Int)) then (7 : Int) else (bif decide (p > (3 : Int)) then (7 : Int) else (bif decide ((↑(ByteArray.size o) : Int) > (64 : Int)) then (2 : Int) else (bif decide ((↑(ByteArray.size v) : Int) > (64 : Int)) then (2 : Int) else (bif x_rcc t w s != (0 : Int) then (x_rcc t w s) else (bif decide (hd ≥ shlV IntKind.u64 (1 : Int) (↑m : Int)) then (3 : Int) else (0 : Int))))))))))
def g_rcbid : List CA → Option Value
  | [.rows _ m g, .val (.int .i64 need), .val (.agg ⟨[.int .i64 a, .int .i64 p, .string o, .string v, .int .i64 t, .int .i64 w, .string s, .int .u64 hd]⟩)] => some (.int .i64 (x_rcbid m g need a p o v t w s hd))
  | _ => none
theorem q_rcbid : QOk K30.P 19 (listC [.agg [.rows wtK, .val], .one .val] g_rcbid) := list_q K30_ok Try.func19 rfl rfl (no_loops rfl) fun cas r hb hk h => by
  unfold g_rcbid at h
  split at h
  · rename_i sh0 m g need a p o v t w s hd
    have e0 := kind_rows (i := 0) hk rfl rfl
    have hbm := bnd_rows (i := 0) hb rfl
    subst e0
    cases h
    refine ⟨rfl, ?_⟩
    show (evV K30 noL _ [.agg ⟨[.slice (some ⟨0, 0, some 0⟩) m m, .int .i64 need]⟩, .agg ⟨[.int .i64 a, .int .i64 p, .string o, .string v, .int .i64 t, .int .i64 w, .string s, .int .u64 hd]⟩] [.recs wtK m g]).sat _
    rw [run_rcbid]
    exact sat_ask (by first | omega | exact ⟨Nat.le_refl _, by assumption⟩ | exact ⟨rfl, rfl⟩ | simp_all) (sat_tst (fun h0 => leaf_v (by simp only [x_rcbid, h0, cond_true])) (fun h0 => sat_tst (fun h1 => leaf_v (by simp only [x_rcbid, h0, h1, cond_true, cond_false])) (fun h1 => sat_tst (fun h2 => leaf_v (by simp only [x_rcbid, h0, h1, h2, cond_true, cond_false])) (fun h2 => sat_tst (fun h3 => leaf_v (by simp only [x_rcbid, h0, h1, h2, h3, cond_true, cond_false])) (fun h3 => sat_tst (fun h4 => leaf_v (by simp only [x_rcbid, h0, h1, h2, h3, h4, cond_true, cond_false])) (fun h4 => sat_tst (fun h5 => leaf_v (by simp only [x_rcbid, h0, h1, h2, h3, h4, h5, cond_true, cond_false])) (fun h5 => sat_tst (fun h6 => leaf_v (by simp only [x_rcbid, h0, h1, h2, h3, h4, h5, h6, cond_true, cond_false])) (fun h6 => sat_tst (fun h7 => leaf_v (by simp only [x_rcbid, h0, h1, h2, h3, h4, h5, h6, h7, cond_true, cond_false])) (fun h7 => sat_ask (by first | omega | exact ⟨Nat.le_refl _, by assumption⟩ | exact ⟨rfl, rfl⟩ | simp_all) (sat_tst (fun h8 => leaf_v (by simp only [x_rcbid, h0, h1, h2, h3, h4, h5, h6, h7, h8, cond_true, cond_false])) (fun h8 => leaf_v (by simp only [x_rcbid, h0, h1, h2, h3, h4, h5, h6, h7, h8, cond_false]))))))))))))
  · cases h
-- @end
-- @file pc.chain
noncomputable def K31 : Kn := K30.addQ 19 (listC [.agg [.rows wtK, .val], .one .val] g_rcbid)
theorem K31_ok : K31.Ok := K30_ok.addQ q_rcbid
-- @end
def vG (a b t w : Int) (s : ByteArray) (j : Nat) : List Value := vtC a b (j : Int) t w s
def keepEN : AE → List Nat
  | .normal => [0, 3, 5, 6]
  | .exit _ => [5]
  | .ret => []
/-- the messages to the first k -/
def enG (a b t w : Int) (s : ByteArray) : Nat → Nat → List Value
  | 0 => fun _ => []
  | k + 1 => joinG k (enG a b t w s k) (litR [vtC a b (k : Int) t w s])
def enS (n : Int) : Nat → List Value
  | 0 => [.int .i64 n, .pointer (some ⟨0, 0, none⟩), .slice none 0 0, .int .i64 0]
  | k + 1 => [.int .i64 n, .pointer (some ⟨0, 0, none⟩), .slice (some ⟨1, 0, some 0⟩) (k + 1) (k + 1), .int .i64 ((k + 1 : Nat) : Int)]
def enH (T : Nat) (a b c t w : Int) (s : ByteArray) : Nat → List AObj
  | 0 => [.cells T [.int .i64 a, .int .i64 b, .int .i64 c, .int .i64 t, .int .i64 w, .string s]]
  | k + 1 => [.cells T [.int .i64 a, .int .i64 b, .int .i64 (k : Int), .int .i64 t, .int .i64 w, .string s], .row 29 vtK (k + 1) (enG a b t w s (k + 1))]
def gENL : List Value → List AObj → (AE → List Value → List AObj → Out) → Out
  | [.int .i64 n, .pointer (some ⟨0, 0, none⟩), .slice none 0 0, .int .i64 i], [.cells T [.int .i64 a, .int .i64 b, .int .i64 c, .int .i64 t, .int .i64 w, .string s]], kk =>
    .ask (i = 0 ∧ 1 ≤ n ∧ n ≤ 12) (kk (.exit 0) [.slice (some ⟨1, 0, some 0⟩) (n.toNat - 1 + 1) (n.toNat - 1 + 1)] (enH T a b c t w s (n.toNat - 1 + 1)))
  | _, _, _ => .bad
def lEN : Nat → Option LCon := oneL 3 (lspec 19 keepEN 1 gENL)
theorem run_en0 (T : Nat) (n a b c t w : Int) (s : ByteArray) : ev K31 noL (bodyOf Try.f41 0) ⟨mkSlots 19 [0, 3, 5, 6] (enS n 0), enH T a b c t w s 0⟩ (pkG 19 keepEN 1) =
    tst (decide ((0 : Int) < n)) (.ask (1 ≤ 1 ∧ 1 ≤ 140737488355328) (.ask (56 ≤ 140737488355328) (.done .normal ⟨someL (enS n 1), enH T a b c t w s 1⟩))) (.done (.exit 0) ⟨someL [.slice none 0 0], enH T a b c t w s 0⟩) := by kernel_rfl
theorem run_en1 (T k : Nat) (n a b c t w : Int) (s : ByteArray) : ev K31 noL (bodyOf Try.f41 0) ⟨mkSlots 19 [0, 3, 5, 6] (enS n (k + 1)), enH T a b c t w s (k + 1)⟩ (pkG 19 keepEN 1) =
    tst (decide (((k + 1 : Nat) : Int) < n)) (.ask (k + 1 ≤ k + 1) (.ask (1 ≤ 1 ∧ 1 ≤ 140737488355328) (.ask ((k + 1 + 1) * 56 ≤ 140737488355328) (.done .normal ⟨someL [.int .i64 n, .pointer (some ⟨0, 0, none⟩), .slice (some ⟨1, 0, some 0⟩) (k + 1 + 1) (k + 1 + 1), .int .i64 (IntKind.wrap .i64 (((k + 1 : Nat) : Int) + 1))], enH T a b c t w s (k + 1 + 1)⟩))))
      (.done (.exit 0) ⟨someL [.slice (some ⟨1, 0, some 0⟩) (k + 1) (k + 1)], enH T a b c t w s (k + 1)⟩) := by kernel_rfl
theorem loop_en : LOk K31.P (bodyOf Try.f41 0) (lspec 19 keepEN 1 gENL) := lspec_ok K31_ok (L := noL) (fun c' _ F h => by cases h) fun Φ vs H kk hm0 h => by
  unfold gENL at h
  split at h
  · rename_i n i T a b c t w s
    obtain ⟨⟨rfl, hn1, hn2⟩, h⟩ := h
    obtain ⟨N, rfl⟩ : ∃ N : Nat, n = ((N + 1 : Nat) : Int) := ⟨n.toNat - 1, by omega⟩
    rw [Int.toNat_natCast, Nat.add_sub_cancel] at h
    refine ⟨{j : Nat // j ≤ N + 1}, fun i => enS ((N + 1 : Nat) : Int) i.1, fun i => enH T a b c t w s i.1, fun i => N + 1 - i.1, ⟨0, by omega⟩, rfl, rfl, ?_⟩
    rintro ⟨j, hj⟩
    show (ev K31 noL _ ⟨mkSlots 19 [0, 3, 5, 6] (enS ((N + 1 : Nat) : Int) j), enH T a b c t w s j⟩ (pkG 19 keepEN 1)).sat _
    cases j with
    | zero =>
      rw [run_en0]
      refine sat_tst (fun _ => sat_ask ⟨by omega, by omega⟩ (sat_ask (by decide) ⟨⟨1, by omega⟩, rfl, rfl, by show N + 1 - 1 < N + 1 - 0; omega⟩)) (fun ht => ?_)
      have := of_decide_eq_false ht
      omega
    | succ k =>
      rw [run_en1]
      refine sat_tst (fun ht => ?_) (fun ht => ?_)
      · have ht := of_decide_eq_true ht
        refine sat_ask (Nat.le_refl _) (sat_ask ⟨by omega, by omega⟩ (sat_ask (by omega) ⟨⟨k + 1 + 1, by omega⟩, ?_, rfl, by show N + 1 - (k + 1 + 1) < N + 1 - (k + 1); omega⟩))
        rw [show IntKind.wrap .i64 (((k + 1 : Nat) : Int) + 1) = ((k + 1 + 1 : Nat) : Int) from by rw [IntKind.wrap_i64]; omega]
        rfl
      · have ht := of_decide_eq_false ht
        obtain rfl : k = N := by omega
        exact ⟨_, rfl, h⟩
  · exact h.elim
theorem lEN_ok : ∀ F, lEN (key (bodyOf Try.f41 0)) = some F → LOk K31.P (bodyOf Try.f41 0) F := fun F h => by
  have hk : lEN (key (bodyOf Try.f41 0)) = some (lspec 19 keepEN 1 gENL) := by kernel_rfl
  rw [hk] at h
  cases h
  exact loop_en
theorem enG_at (a b t w : Int) (s : ByteArray) : ∀ {n j : Nat}, j < n → enG a b t w s n j = vG a b t w s j
  | n + 1, j, hj => by
    show (bif Nat.blt j n then enG a b t w s n j else litR [vtC a b (n : Int) t w s] (j - n)) = _
    by_cases e : j < n
    · rw [show Nat.blt j n = true from by rw [Nat.blt_eq]; exact e]
      exact enG_at a b t w s e
    · obtain rfl : j = n := by omega
      rw [show Nat.blt j j = false from by
        cases e : Nat.blt j j with
        | false => rfl
        | true => rw [Nat.blt_eq] at e; omega, Nat.sub_self]
      rfl
def aEN : List CA → Prop
  | [.val (.int _ n), _] => 1 ≤ n ∧ n ≤ 12
  | _ => False
def gEN : List CA → Option (List RC)
  | [.val (.int .i64 n), .val (.agg ⟨[.int .i64 a, .int .i64 b, .int .i64 _, .int .i64 t, .int .i64 w, .string s]⟩)] => some [.rows 29 vtK n.toNat (vG a b t w s)]
  | _ => none
theorem run_en (n a b c t w : Int) (s : ByteArray) : evR K31 lEN Try.f41 [.int .i64 n, .agg ⟨[.int .i64 a, .int .i64 b, .int .i64 c, .int .i64 t, .int .i64 w, .string s]⟩] [] [.one .val] [.rows 29 vtK n.toNat (vG a b t w s)] =
    .ask ((0 : Int) = 0 ∧ 1 ≤ n ∧ n ≤ 12) (.ask (n.toNat - 1 + 1 = n.toNat ∧ n.toNat - 1 + 1 ≤ n.toNat - 1 + 1 ∧ ∀ j, j < n.toNat → norm vtK (enG a b t w s (n.toNat - 1 + 1) j) = norm vtK (vG a b t w s j)) (.done .ret ⟨[], []⟩)) := by kernel_rfl
theorem f_en : FOk K31.P 41 (listF [.one .val, .one .val] [.one .val] aEN gEN) := list_f K31_ok Try.func41 rfl rfl (one_loop (by kernel_rfl) lEN_ok) fun cas rs hb hk ha h => by
  unfold gEN at h
  split at h
  · rename_i n a b c t w s
    obtain ⟨h1, h2⟩ : 1 ≤ n ∧ n ≤ 12 := ha
    cases h
    show (evR K31 lEN _ [.int .i64 n, .agg ⟨[.int .i64 a, .int .i64 b, .int .i64 c, .int .i64 t, .int .i64 w, .string s]⟩] [] [.one .val] _).sat _
    rw [run_en]
    have e : n.toNat - 1 + 1 = n.toNat := by omega
    exact sat_ask ⟨rfl, h1, h2⟩ (sat_ask ⟨e, Nat.le_refl _, fun j hj => by rw [e, enG_at a b t w s hj]⟩ sat_end)
  · cases h
noncomputable def K32 : Kn := K31.addF 41 (listF [.one .val, .one .val] [.one .val] aEN gEN)
theorem K32_ok : K32.Ok := K31_ok.addF f_en
theorem cz1 {b : Bool} {c r : Int} (hc : c ≠ 0) : ((bif b then c else r) = 0) ↔ (b = false ∧ r = 0) := by
  cases b
  · simp
  · simpa using hc
theorem cz2 {q r : Int} : ((bif q != 0 then q else r) = 0) ↔ (q = 0 ∧ r = 0) := by
  by_cases h : q = 0
  · subst h; simp
  · have : (q != 0) = true := by simpa using h
    rw [this]; simp [h]
theorem shl_nat {k : Nat} (h : k < 64) : shlV .u64 1 (k : Int) = ((2 ^ k : Nat) : Int) := by
  unfold shlV
  rw [show min ((k : Int).toNat) (IntKind.bits .u64) = k from by rw [Int.toNat_natCast]; exact Nat.min_eq_left (show k ≤ 64 by omega)]
  have hlt : 2 ^ k < 18446744073709551616 := Nat.pow_lt_pow_right (a := 2) (n := 64) (by decide) h
  rw [Int.one_mul, show (2 : Int) ^ k = ((2 ^ k : Nat) : Int) from by rw [Int.natCast_pow]; rfl]
  exact wrap_nat hlt
theorem wf_nat {h : Int} (hw : (Lit.int .u64 h).wf = true) : ∃ a : Nat, h = a ∧ a < 18446744073709551616 := by
  have hw : IntKind.u64.min ≤ h ∧ h ≤ IntKind.u64.max := by simpa [Lit.wf] using hw
  have e1 : IntKind.u64.min = 0 := by decide
  have e2 : IntKind.u64.max = 18446744073709551615 := by decide
  rw [e1, e2] at hw
  exact ⟨h.toNat, by omega, by omega⟩
theorem rcbid_eq {m : Nat} {g : Nat → List Value} {need a p : Int} {o v : ByteArray} {t w : Int} {s : ByteArray} {hd : Int} (hw : (Lit.int .u64 hd).wf = true) : x_rcbid m g need a p o v t w s hd = x_cbid m g need a p o v t w s hd := by
  unfold x_rcbid x_cbid
  have eta : (wsOf m fun j => g j) = wsOf m g := rfl
  rw [rqc_eq, rcc_eq, eta]
  cases hq : (qE (wsOf m g) need != 0) with
  | true => rfl
  | false =>
    have hm : m ≤ 12 := by
      have := (qE_m (by simpa using hq)).1
      rw [ws_len] at this
      exact this
    have e3 : decide (hd ≥ shlV .u64 1 (m : Int)) = (shrV .u64 hd m != 0) := by
      obtain ⟨n, rfl, hn⟩ := wf_nat hw
      rw [shl_nat (by omega), shr_nat _ _ (by omega)]
      have hp : 0 < 2 ^ m := Nat.two_pow_pos m
      by_cases hh : n < 2 ^ m
      · rw [Nat.div_eq_of_lt hh, decide_eq_false (by omega)]
        rfl
      · have : n / 2 ^ m ≠ 0 := fun e => hh ((Nat.div_eq_zero_iff_lt hp).1 e)
        rw [decide_eq_true (by omega)]
        symm
        simp only [bne_iff_ne, ne_eq]
        omega
    rw [e3]
theorem rcbid_n {m : Nat} {g : Nat → List Value} {need a p : Int} {o v : ByteArray} {t w : Int} {s : ByteArray} {hd : Int} (h : (x_rcbid m g need a p o v t w s hd != 0) = false) : (1 : Int) ≤ (m : Int) ∧ (m : Int) ≤ 12 := by
  have h : x_rcbid m g need a p o v t w s hd = 0 := by simpa using h
  unfold x_rcbid at h
  have eta : (fun j => g j) = g := rfl
  rw [rqc_eq, eta, cz2] at h
  have := qE_m h.1
  rw [ws_len] at this
  omega
end Go.Proofs.Ytbmbnbhedalcnab
namespace Go.Proofs.Ytbmbnbhedalcnab
open Go.RowKit
-- @file pd.out
def x0_rbb (m : Nat) (g : Nat → List Value) (need : Int) (no : Int) (time : Int) (own : ByteArray) : Int := (bif decide (no < (0 : Int)) then (0 : Int) else (bif decide (no > (30 : Int)) then (0 : Int) else (bif x_rcbid m (fun j => g j) need time (1 : Int) own { data := { toList := [] } } (0 : Int) (0 : Int) { data := { toList := [] } } (0 : Int) != (0 : Int) then (0 : Int) else (time))))
def x1_rbb (m : Nat) (g : Nat → List Value) (need : Int) (no : Int) (time : Int) (own : ByteArray) : Int := (bif decide (no < (0 : Int)) then (0 : Int) else (bif decide (no > (30 : Int)) then (0 : Int) else (bif x_rcbid m (fun j => g j) need time (1 : Int) own { data := { toList := [] } } (0 : Int) (0 : Int) { data := { toList := [] } } (0 : Int) != (0 : Int) then (0 : Int) else (1 : Int))))
def x2_rbb (m : Nat) (g : Nat → List Value) (need : Int) (no : Int) (time : Int) (own : ByteArray) : ByteArray := (bif decide (no < (0 : Int)) then ({ data := { toList := [] } }) else (bif decide (no > (30 : Int)) then ({ data := { toList := [] } }) else (bif x_rcbid m (fun j => g j) need time (1 : Int) own { data := { toList := [] } } (0 : Int) (0 : Int) { data := { toList := [] } } (0 : Int) != (0 : Int) then ({ data := { toList := [] } }) else (own))))
def x3_rbb (m : Nat) (g : Nat → List Value) (need : Int) (no : Int) (time : Int) (own : ByteArray) : ByteArray := (bif decide (no < (0 : Int)) then ({ data := { toList := [] } }) else (bif decide (no > (30 : Int)) then ({ data := { toList := [] } }) else (bif x_rcbid m (fun j => g j) need time (1 : Int) own { data := { toList := [] } } (0 : Int) (0 : Int) { data := { toList := [] } } (0 : Int) != (0 : Int) then ({ data := { toList := [] } }) else ({ data := { toList := [] } }))))
def x4_rbb (m : Nat) (g : Nat → List Value) (need : Int) (no : Int) (time : Int) (own : ByteArray) : Int := (bif decide (no < (0 : Int)) then (0 : Int) else (bif decide (no > (30 : Int)) then (0 : Int) else (bif x_rcbid m (fun j => g j) need time (1 : Int) own { data := { toList := [] } } (0 : Int) (0 : Int) { data := { toList := [] } } (0 : Int) != (0 : Int) then (0 : Int) else (0 : Int))))
def x5_rbb (m : Nat) (g : Nat → List Value) (need : Int) (no : Int) (time : Int) (own : ByteArray) : Int := (bif decide (no < (0 : Int)) then (0 : Int) else (bif decide (no > (30 : Int)) then (0 : Int) else (bif x_rcbid m (fun j => g j) need time (1 : Int) own { data := { toList := [] } } (0 : Int) (0 : Int) { data := { toList := [] } } (0 : Int) != (0 : Int) then (0 : Int) else (0 : Int))))
def x6_rbb (m : Nat) (g : Nat → List Value) (need : Int) (no : Int) (time : Int) (own : ByteArray) : ByteArray := (bif decide (no < (0 : Int)) then ({ data := { toList := [] } }) else (bif decide (no > (30 : Int)) then ({ data := { toList := [] } }) else (bif x_rcbid m (fun j => g j) need time (1 : Int) own { data := { toList := [] } } (0 : Int) (0 : Int) { data := { toList := [] } } (0 : Int) != (0 : Int) then ({ data := { toList := [] } }) else ({ data := { toList := [] } }))))
def x7_rbb (m : Nat) (g : Nat → List Value) (need : Int) (no : Int) (time : Int) (own : ByteArray) : Int := (bif decide (no < (0 : Int)) then (0 : Int) else (bif decide (no > (30 : Int)) then (0 : Int) else (bif x_rcbid m (fun j => g j) need time (1 : Int) own { data := { toList := [] } } (0 : Int) (0 : Int) { data := { toList := [] } } (0 : Int) != (0 : Int) then (0 : Int) else (0 : Int))))
def n8_rbb (m : Nat) (g : Nat → List Value) (need : Int) (no : Int) (time : Int) (own : ByteArray) : Nat := (bif decide (no < (0 : Int)) then (0) else (bif decide (no > (30 : Int)) then (0) else (bif x_rcbid m (fun j => g j) need time (1 : Int) own { data := { toList := [] } } (0 : Int) (0 : Int) { data := { toList := [] } } (0 : Int) != (0 : Int) then (0) else (m))))
def g8_rbb (m : Nat) (g : Nat → List Value) (need : Int) (no : Int) (time : Int) (own : ByteArray) : Nat → List Value := (bif decide (no < (0 : Int)) then (fun _ => []) else (bif decide (no > (30 : Int)) then (fun _ => []) else (bif x_rcbid m (fun j => g j) need time (1 : Int) own { data := { toList := [] } } (0 : Int) (0 : Int) { data := { toList := [] } } (0 : Int) != (0 : Int) then (fun _ => []) else (vG (1 : Int) no time no { data := #[] }))))
def x9_rbb (m : Nat) (g : Nat → List Value) (need : Int) (no : Int) (time : Int) (own : ByteArray) : Int := (bif decide (no < (0 : Int)) then (3 : Int) else (bif decide (no > (30 : Int)) then (3 : Int) else (bif x_rcbid m (fun j => g j) need time (1 : Int) own { data := { toList := [] } } (0 : Int) (0 : Int) { data := { toList := [] } } (0 : Int) != (0 : Int) then (x_rcbid m (fun j => g j) need time (1 : Int) own { data := { toList := [] } } (0 : Int) (0 : Int) { data := { toList := [] } } (0 : Int)) else (0 : Int))))
theorem run_rbb (m : Nat) (g : Nat → List Value) (need : Int) (no : Int) (time : Int) (own : ByteArray) : evR K32 noL Try.f17 [.agg ⟨[.slice (some ⟨0, 0, some 0⟩) m m, .int .i64 need]⟩, .int .i64 no, .int .i64 time, .string own] [.recs wtK m g] [.agg [.val, .val, .val, .val, .val, .val, .val, .val], .one .val, .one .val] [.val (.int .i64 (x0_rbb m g need no time own)), .val (.int .i64 (x1_rbb m g need no time own)), .val (.string (x2_rbb m g need no time own)), .val (.string (x3_rbb m g need no time own)), .val (.int .i64 (x4_rbb m g need no time own)), .val (.int .i64 (x5_rbb m g need no time own)), .val (.string (x6_rbb m g need no time own)), .val (.int .u64 (x7_rbb m g need no time own)), .rows 29 vtK (n8_rbb m g need no time own) (g8_rbb m g need no time own), .val (.int .i64 (x9_rbb m g need no time own))] = tst (decide (no < (0 : Int))) (Out.ask ((Value.int IntKind.i64 (0 : Int) : Value) = .int .i64 (x0_rbb m g need no time own)) (Out.ask ((Value.int IntKind.i64 (0 : Int) : Value) = .int .i64 (x1_rbb m g need no time own)) (Out.ask ((Value.string { data := { toList := [] } } : Value) = .string (x2_rbb m g need no time own)) (Out.ask ((Value.string { data := { toList := [] } } : Value) = .string (x3_rbb m g need no time own)) (Out.ask ((Value.int IntKind.i64 (0 : Int) : Value) = .int .i64 (x4_rbb m g need no time own)) (Out.ask ((Value.int IntKind.i64 (0 : Int) : Value) = .int .i64 (x5_rbb m g need no time own)) (Out.ask ((Value.string { data := { toList := [] } } : Value) = .string (x6_rbb m g need no time own)) (Out.ask ((Value.int IntKind.u64 (0 : Int) : Value) = .int .u64 (x7_rbb m g need no time own)) (Out.ask ((n8_rbb m g need no time own : Nat) = 0) (Out.ask ((Value.int IntKind.i64 (3 : Int) : Value) = .int .i64 (x9_rbb m g need no time own)) (Out.done .ret ⟨[], []⟩))))))))))) (tst (decide (no > (30 : Int))) (Out.ask ((Value.int IntKind.i64 (0 : Int) : Value) = .int .i64 (x0_rbb m g need no time own)) (Out.ask ((Value.int IntKind.i64 (0 : Int) : Value) = .int .i64 (x1_rbb m g need no time own)) (Out.ask ((Value.string { data := { toList := [] } } : Value) = .string (x2_rbb m g need no time own)) (Out.ask ((Value.string { data := { toList := [] } } : Value) = .string (x3_rbb m g need no time own)) (Out.ask ((Value.int IntKind.i64 (0 : Int) : Value) = .int .i64 (x4_rbb m g need no time own)) (Out.ask ((Value.int IntKind.i64 (0 : Int) : Value) = .int .i64 (x5_rbb m g need no time own)) (Out.ask ((Value.string { data := { toList := [] } } : Value) = .string (x6_rbb m g need no time own)) (Out.ask ((Value.int IntKind.u64 (0 : Int) : Value) = .int .u64 (x7_rbb m g need no time own)) (Out.ask ((n8_rbb m g need no time own : Nat) = 0) (Out.ask ((Value.int IntKind.i64 (3 : Int) : Value) = .int .i64 (x9_rbb m g need no time own)) (Out.done .ret ⟨[], []⟩))))))))))) (Out.ask (m ≤ m ∧ m ≤ (140737488355328 : Nat)) (tst (x_rcbid m (fun j => g j) need time (1 : Int) own { data := { toList := [] } } (0 : Int) (0 : Int) { data := { toList := [] } } (0 : Int) != (0 : Int)) (Out.ask ((Value.int IntKind.i64 (0 : Int) : Value) = .int .i64 (x0_rbb m g need no time own)) (Out.ask ((Value.int IntKind.i64 (0 : Int) : Value) = .int .i64 (x1_rbb m g need no time own)) (Out.ask ((Value.string { data := { toList := [] } } : Value) = .string (x2_rbb m g need no time own)) (Out.ask ((Value.string { data := { toList := [] } } : Value) = .string (x3_rbb m g need no time own)) (Out.ask ((Value.int IntKind.i64 (0 : Int) : Value) = .int .i64 (x4_rbb m g need no time own)) (Out.ask ((Value.int IntKind.i64 (0 : Int) : Value) = .int .i64 (x5_rbb m g need no time own)) (Out.ask ((Value.string { data := { toList := [] } } : Value) = .string (x6_rbb m g need no time own)) (Out.ask ((Value.int IntKind.u64 (0 : Int) : Value) = .int .u64 (x7_rbb m g need no time own)) (Out.ask ((n8_rbb m g need no time own : Nat) = 0) (Out.ask ((Value.int IntKind.i64 (x_rcbid m (fun j => g j) need time (1 : Int) own { data := { toList := [] } } (0 : Int) (0 : Int) { data := { toList := [] } } (0 : Int)) : Value) = .int .i64 (x9_rbb m g need no time own)) (Out.done .ret ⟨[], []⟩))))))))))) (Out.ask (aEN [CA.val (Value.int IntKind.i64 (↑m : Int)), CA.val (Value.agg { toList := [Value.int IntKind.i64 (1 : Int), Value.int IntKind.i64 no, Value.int IntKind.i64 (0 : Int), Value.int IntKind.i64 time, Value.int IntKind.i64 no, Value.string { data := { toList := [] } }] })]) (Out.ask ((Value.int IntKind.i64 time : Value) = .int .i64 (x0_rbb m g need no time own)) (Out.ask ((Value.int IntKind.i64 (1 : Int) : Value) = .int .i64 (x1_rbb m g need no time own)) (Out.ask ((Value.string own : Value) = .string (x2_rbb m g need no time own)) (Out.ask ((Value.string { data := { toList := [] } } : Value) = .string (x3_rbb m g need no time own)) (Out.ask ((Value.int IntKind.i64 (0 : Int) : Value) = .int .i64 (x4_rbb m g need no time own)) (Out.ask ((Value.int IntKind.i64 (0 : Int) : Value) = .int .i64 (x5_rbb m g need no time own)) (Out.ask ((Value.string { data := { toList := [] } } : Value) = .string (x6_rbb m g need no time own)) (Out.ask ((Value.int IntKind.u64 (0 : Int) : Value) = .int .u64 (x7_rbb m g need no time own)) (Out.ask ((m) = n8_rbb m g need no time own ∧ (m) ≤ (m) ∧ ∀ j, j < n8_rbb m g need no time own → norm vtK ((vG (1 : Int) no time no { data := #[] }) j) = norm vtK (g8_rbb m g need no time own j)) (Out.ask ((Value.int IntKind.i64 (0 : Int) : Value) = .int .i64 (x9_rbb m g need no time own)) (Out.done .ret ⟨[], []⟩))))))))))))))) := by kernel_rfl
def g_rbb : List CA → Option (List RC)
  | [.rows _ m g, .val (.int .i64 need), .val (.int .i64 no), .val (.int .i64 time), .val (.string own)] => some [.val (.int .i64 (x0_rbb m g need no time own)), .val (.int .i64 (x1_rbb m g need no time own)), .val (.string (x2_rbb m g need no time own)), .val (.string (x3_rbb m g need no time own)), .val (.int .i64 (x4_rbb m g need no time own)), .val (.int .i64 (x5_rbb m g need no time own)), .val (.string (x6_rbb m g need no time own)), .val (.int .u64 (x7_rbb m g need no time own)), .rows 29 vtK (n8_rbb m g need no time own) (g8_rbb m g need no time own), .val (.int .i64 (x9_rbb m g need no time own))]
  | _ => none
theorem f_rbb : FOk K32.P 17 (listG [.agg [.rows wtK, .val], .one .val, .one .val, .one .val] [.agg [.val, .val, .val, .val, .val, .val, .val, .val], .one .val, .one .val] g_rbb) := list_g K32_ok Try.func17 rfl rfl (no_loops rfl) fun cas rs _hb _hk h => by
  unfold g_rbb at h
  split at h
  · rename_i sh0 m g need no time own
    have e0 := kind_rows (i := 0) _hk rfl rfl
    have hbm := bnd_rows (i := 0) _hb rfl
    subst e0
    cases h
    show (evR K32 noL _ [.agg ⟨[.slice (some ⟨0, 0, some 0⟩) m m, .int .i64 need]⟩, .int .i64 no, .int .i64 time, .string own] [.recs wtK m g] [.agg [.val, .val, .val, .val, .val, .val, .val, .val], .one .val, .one .val] _).sat _
    rw [run_rbb]
    exact sat_tst (fun h0 => sat_ask (by simp only [x0_rbb, h0, cond_true]) (sat_ask (by simp only [x1_rbb, h0, cond_true]) (sat_ask (by simp only [x2_rbb, h0, cond_true]) (sat_ask (by simp only [x3_rbb, h0, cond_true]) (sat_ask (by simp only [x4_rbb, h0, cond_true]) (sat_ask (by simp only [x5_rbb, h0, cond_true]) (sat_ask (by simp only [x6_rbb, h0, cond_true]) (sat_ask (by simp only [x7_rbb, h0, cond_true]) (sat_ask (by simp only [n8_rbb, h0, cond_true]) (sat_ask (by simp only [x9_rbb, h0, cond_true]) (sat_end))))))))))) (fun h0 => sat_tst (fun h1 => sat_ask (by simp only [x0_rbb, h0, h1, cond_true, cond_false]) (sat_ask (by simp only [x1_rbb, h0, h1, cond_true, cond_false]) (sat_ask (by simp only [x2_rbb, h0, h1, cond_true, cond_false]) (sat_ask (by simp only [x3_rbb, h0, h1, cond_true, cond_false]) (sat_ask (by simp only [x4_rbb, h0, h1, cond_true, cond_false]) (sat_ask (by simp only [x5_rbb, h0, h1, cond_true, cond_false]) (sat_ask (by simp only [x6_rbb, h0, h1, cond_true, cond_false]) (sat_ask (by simp only [x7_rbb, h0, h1, cond_true, cond_false]) (sat_ask (by simp only [n8_rbb, h0, h1, cond_true, cond_false]) (sat_ask (by simp only [x9_rbb, h0, h1, cond_true, cond_false]) (sat_end))))))))))) (fun h1 => sat_ask (by first | omega | exact ⟨Nat.le_refl _, by assumption⟩ | exact ⟨rfl, rfl⟩ | exact rcbid_n h2 | simp_all) (sat_tst (fun h2 => sat_ask (by simp only [x0_rbb, h0, h1, h2, cond_true, cond_false]) (sat_ask (by simp only [x1_rbb, h0, h1, h2, cond_true, cond_false]) (sat_ask (by simp only [x2_rbb, h0, h1, h2, cond_true, cond_false]) (sat_ask (by simp only [x3_rbb, h0, h1, h2, cond_true, cond_false]) (sat_ask (by simp only [x4_rbb, h0, h1, h2, cond_true, cond_false]) (sat_ask (by simp only [x5_rbb, h0, h1, h2, cond_true, cond_false]) (sat_ask (by simp only [x6_rbb, h0, h1, h2, cond_true, cond_false]) (sat_ask (by simp only [x7_rbb, h0, h1, h2, cond_true, cond_false]) (sat_ask (by simp only [n8_rbb, h0, h1, h2, cond_true, cond_false]) (sat_ask (by simp only [x9_rbb, h0, h1, h2, cond_true, cond_false]) (sat_end))))))))))) (fun h2 => sat_ask (by first | omega | exact ⟨Nat.le_refl _, by assumption⟩ | exact ⟨rfl, rfl⟩ | exact rcbid_n h2 | simp_all) (sat_ask (by simp only [x0_rbb, h0, h1, h2, cond_false]) (sat_ask (by simp only [x1_rbb, h0, h1, h2, cond_false]) (sat_ask (by simp only [x2_rbb, h0, h1, h2, cond_false]) (sat_ask (by simp only [x3_rbb, h0, h1, h2, cond_false]) (sat_ask (by simp only [x4_rbb, h0, h1, h2, cond_false]) (sat_ask (by simp only [x5_rbb, h0, h1, h2, cond_false]) (sat_ask (by simp only [x6_rbb, h0, h1, h2, cond_false]) (sat_ask (by simp only [x7_rbb, h0, h1, h2, cond_false]) (sat_ask ⟨by simp only [n8_rbb, h0, h1, h2, cond_false], Nat.le_refl _, fun j _ => by simp only [g8_rbb, h0, h1, h2, cond_false]⟩ (sat_ask (by simp only [x9_rbb, h0, h1, h2, cond_false]) (sat_end)))))))))))))))
  · cases h
-- @end
-- @file pd.chain
noncomputable def K33 : Kn := K32.addF 17 (listG [.agg [.rows wtK, .val], .one .val, .one .val, .one .val] [.agg [.val, .val, .val, .val, .val, .val, .val, .val], .one .val, .one .val] g_rbb)
theorem K33_ok : K33.Ok := K32_ok.addF f_rbb
-- @end
def keepM1 : AE → List Nat
  | .normal => [0, 2, 4]
  | .exit _ => [0, 2]
  | .ret => [2, 3]
def gM1L : List Value → List AObj → (AE → List Value → List AObj → Out) → Out
  | [.slice (some ⟨0, 0, some 0⟩) l c, .pointer (some ⟨1, 0, none⟩), .int .i64 i], [.recs sh m g, .cells T [.int .i64 a, .int .i64 b, .string s]], k => (match shEq sh cpK with
    | true => .ask (l = m ∧ c = m ∧ i = 0 ∧ m ≤ 12) (tst (cks (cpsOf m g) != 0) (k .ret [.pointer (some ⟨1, 0, none⟩), .int .i64 (cks (cpsOf m g))] [.recs sh m g, .cells T [.int .i64 0, .int .i64 0, .string ⟨#[]⟩]])
      (k (.exit 0) [.slice (some ⟨0, 0, some 0⟩) m m, .pointer (some ⟨1, 0, none⟩)] [.recs sh m g, .cells T [.int .i64 a, .int .i64 b, .string s]]))
    | false => .bad)
  | _, _, _ => .bad
def lM1 : Nat → Option LCon := oneL 4 (lspec 61 keepM1 2 gM1L)
def keepM2 : AE → List Nat
  | .normal => [0, 2, 6, 7, 8]
  | .exit _ => [0, 2, 6, 7]
  | .ret => []
def keepM3 : AE → List Nat
  | .normal => [0, 2, 6]
  | .exit _ => [0, 2]
  | .ret => [2, 3]
def gM2L : List Value → List AObj → (AE → List Value → List AObj → Out) → Out
  | [.slice (some ⟨0, 0, some 0⟩) l c, .pointer (some ⟨1, 0, none⟩), .int .i64 i, .bool b, .int .i64 j], [.recs sh m g, .cells T [.int .i64 x, .int .i64 y, .string s]], k => (match shEq sh cpK with
    | true => .ask (l = m ∧ c = m ∧ j = 0 ∧ 0 ≤ i ∧ i < m ∧ m ≤ 12) (k (.exit 4) [.slice (some ⟨0, 0, some 0⟩) m m, .pointer (some ⟨1, 0, none⟩), .int .i64 i, .bool (b || abv (cpsOf m g) i.toNat m)] [.recs sh m g, .cells T [.int .i64 x, .int .i64 y, .string s]])
    | false => .bad)
  | _, _, _ => .bad
def lM2 : Nat → Option LCon := oneL 14 (lspec 61 keepM2 2 gM2L)
def gM3L : List Value → List AObj → (AE → List Value → List AObj → Out) → Out
  | [.slice (some ⟨0, 0, some 0⟩) l c, .pointer (some ⟨1, 0, none⟩), .int .i64 i], [.recs sh m g, .cells T [.int .i64 _, .int .i64 _, .string _]], k => (match shEq sh cpK with
    | true => .ask (l = m ∧ c = m ∧ i = 0 ∧ 0 < m ∧ m ≤ 12) (k .ret [.pointer (some ⟨1, 0, none⟩), .int .i64 0] [.recs sh m g, .cells T [.int .i64 (lats (cpsOf m g)).1.1, .int .i64 (lats (cpsOf m g)).1.2, .string (lats (cpsOf m g)).2]])
    | false => .bad)
  | _, _, _ => .bad
def lMe : Nat → Option LCon := addL lM1 10 (lspec 61 keepM3 2 gM3L)
noncomputable def mInn : Code := (nthL (loops (bodyOf Try.f39 1)) 0).getD .skip
abbrev meS (m : Nat) (i : Int) : List Value := [.slice (some ⟨0, 0, some 0⟩) m m, .pointer (some ⟨1, 0, none⟩), .int .i64 i]
abbrev meH (m T : Nat) (g : Nat → List Value) (x y : Int) (s : ByteArray) : List AObj := [.recs cpK m g, .cells T [.int .i64 x, .int .i64 y, .string s]]
theorem run_m1 (m k T : Nat) (g : Nat → List Value) (x y : Int) (s : ByteArray) : ev K33 noL (bodyOf Try.f39 0) ⟨mkSlots 61 [0, 2, 4] (meS m k), meH m T g x y s⟩ (pkG 61 keepM1 2) =
    tst (decide ((k : Int) < (m : Int))) (.ask ((0 : Int) ≤ (k : Int) ∧ (k : Int) < (m : Int)) (.ask (k < m) (tst (x_rcc (intV (hdV (g k))) (intV (hdV (tlV (g k)))) (strV (hdV (tlV (tlV (g k))))) != 0)
      (.done .ret ⟨someL [.pointer (some ⟨1, 0, none⟩), .int .i64 (x_rcc (intV (hdV (g k))) (intV (hdV (tlV (g k)))) (strV (hdV (tlV (tlV (g k))))))], meH m T g 0 0 ⟨#[]⟩⟩)
      (.done .normal ⟨someL (meS m (IntKind.wrap .i64 ((k : Int) + 1))), meH m T g x y s⟩))))
      (.done (.exit 0) ⟨someL [.slice (some ⟨0, 0, some 0⟩) m m, .pointer (some ⟨1, 0, none⟩)], meH m T g x y s⟩) := by kernel_rfl
theorem run_m2 (m k i T : Nat) (g : Nat → List Value) (x y : Int) (b : Bool) (s : ByteArray) : ev K33 noL mInn ⟨mkSlots 61 [0, 2, 6, 7, 8] (meS m i ++ [.bool b, .int .i64 k]), meH m T g x y s⟩ (pkG 61 keepM2 2) =
    tst (decide ((k : Int) < (m : Int))) (tst b (.done .normal ⟨someL (meS m i ++ [.bool true, .int .i64 (IntKind.wrap .i64 ((k : Int) + 1))]), meH m T g x y s⟩)
      (.ask ((0 : Int) ≤ (i : Int) ∧ (i : Int) < (m : Int)) (.ask (i < m) (.ask ((0 : Int) ≤ (k : Int) ∧ (k : Int) < (m : Int)) (.ask (k < m) (.done .normal ⟨someL (meS m i ++ [.bool (x_rsl (intV (hdV (g i))) (intV (hdV (tlV (g i)))) (intV (hdV (g k))) (intV (hdV (tlV (g k))))), .int .i64 (IntKind.wrap .i64 ((k : Int) + 1))]), meH m T g x y s⟩))))))
      (.done (.exit 4) ⟨someL (meS m i ++ [.bool b]), meH m T g x y s⟩) := by kernel_rfl
theorem run_m3 (m k T : Nat) (g : Nat → List Value) (x y : Int) (s : ByteArray) : ev K33 lM2 (bodyOf Try.f39 1) ⟨mkSlots 61 [0, 2, 6] (meS m k), meH m T g x y s⟩ (pkG 61 keepM3 2) =
    tst (decide ((k : Int) < (m : Int))) (.ask (m = m ∧ m = m ∧ (0 : Int) = 0 ∧ (0 : Int) ≤ (k : Int) ∧ (k : Int) < (m : Int) ∧ m ≤ 12) (tst (!abv (cpsOf m g) k m)
      (.ask ((0 : Int) ≤ (k : Int) ∧ (k : Int) < (m : Int)) (.ask (k < m) (.done .ret ⟨someL [.pointer (some ⟨1, 0, none⟩), .int .i64 0], meH m T g (intV (hdV (g k))) (intV (hdV (tlV (g k)))) (strV (hdV (tlV (tlV (g k)))))⟩)))
      (.done .normal ⟨someL (meS m (IntKind.wrap .i64 ((k : Int) + 1))), meH m T g x y s⟩)))
      (.done (.exit 2) ⟨someL [.slice (some ⟨0, 0, some 0⟩) m m, .pointer (some ⟨1, 0, none⟩)], meH m T g x y s⟩) := by kernel_rfl
theorem run_me (m : Nat) (g : Nat → List Value) : evV K33 lMe Try.f39 [.slice (some ⟨0, 0, some 0⟩) m m] [.recs cpK m g] =
    tst (decide ((m : Int) > 12)) (.done .ret ⟨[some (.tuple ⟨[.agg ⟨[.int .i64 0, .int .i64 0, .string ⟨#[]⟩]⟩, .int .i64 2]⟩)], []⟩) (.ask (m = m ∧ m = m ∧ (0 : Int) = 0 ∧ m ≤ 12) (tst (cks (cpsOf m g) != 0) (.done .ret ⟨[some (.tuple ⟨[.agg ⟨[.int .i64 0, .int .i64 0, .string ⟨#[]⟩]⟩, .int .i64 (cks (cpsOf m g))]⟩)], []⟩)
      (.ask (m = m ∧ m = m ∧ (0 : Int) = 0 ∧ 0 < m ∧ m ≤ 12) (.done .ret ⟨[some (.tuple ⟨[.agg ⟨[.int .i64 (lats (cpsOf m g)).1.1, .int .i64 (lats (cpsOf m g)).1.2, .string (lats (cpsOf m g)).2]⟩, .int .i64 0]⟩)], []⟩)))) := by kernel_rfl
theorem loop_m1 : LOk K33.P (bodyOf Try.f39 0) (lspec 61 keepM1 2 gM1L) := lspec_ok K33_ok (L := noL) (fun c' _ F h => by cases h) fun Φ vs H kk hm0 h => by
  unfold gM1L at h
  split at h
  · rename_i l c i sh m g T x y s
    split at h
    · rename_i hsh
      have := shEq_eq hsh
      subst this
      obtain ⟨⟨rfl, rfl, rfl, hb⟩, h⟩ := h
      refine ⟨{j : Nat // j ≤ c ∧ ∀ i, i < j → cck ((cpsOf c g)[i]?.getD cz) = 0}, fun n => meS c n.1, fun _ => meH c T g x y s, fun n => c - n.1, ⟨0, by omega, fun i hi => by omega⟩, rfl, rfl, ?_⟩
      rintro ⟨j, hj, hz⟩
      show (ev K33 noL _ ⟨mkSlots 61 [0, 2, 4] (meS c j), meH c T g x y s⟩ (pkG 61 keepM1 2)).sat _
      rw [run_m1]
      refine sat_tst (fun ht => ?_) (fun ht => ?_)
      · have hlt : j < c := by have := of_decide_eq_true ht; omega
        have ee : x_rcc (intV (hdV (g j))) (intV (hdV (tlV (g j)))) (strV (hdV (tlV (tlV (g j))))) = cck ((cpsOf c g)[j]?.getD cz) := by rw [rcc_eq, cps_at g hlt]; rfl
        rw [ee]
        refine sat_ask ⟨by omega, by omega⟩ (sat_ask hlt (sat_tst (fun h1 => ?_) fun h1 => ?_))
        · have h1' : cck ((cpsOf c g)[j]?.getD cz) ≠ 0 := by simpa using h1
          rw [cks_at _ j (by rw [cps_len]; exact hlt) hz h1', h1] at h
          exact ⟨_, rfl, h⟩
        · have h1' : cck ((cpsOf c g)[j]?.getD cz) = 0 := by simpa using h1
          refine ⟨⟨j + 1, by omega, fun i hi => ?_⟩, ?_, rfl, by show c - (j + 1) < c - j; omega⟩
          · by_cases e : i = j
            · subst e; exact h1'
            · exact hz i (by omega)
          · rw [wrap_at hlt (by omega)]
      · have hge : j = c := by have := of_decide_eq_false ht; omega
        subst hge
        rw [cks_all (cpsOf j g) fun k hk => hz k (by rw [cps_len] at hk; exact hk)] at h
        exact ⟨_, rfl, h⟩
    · exact h.elim
  · exact h.elim
theorem loop_m2 : LOk K33.P mInn (lspec 61 keepM2 2 gM2L) := lspec_ok K33_ok (L := noL) (fun c' _ F h => by cases h) fun Φ vs H kk hm0 h => by
  unfold gM2L at h
  split at h
  · rename_i l c i b k sh m g T x y s
    split at h
    · rename_i hsh
      have := shEq_eq hsh
      subst this
      obtain ⟨⟨rfl, rfl, rfl, hi0, hi1, hb⟩, h⟩ := h
      obtain ⟨i, rfl⟩ : ∃ n : Nat, i = n := ⟨i.toNat, by omega⟩
      have hi1 : i < c := by omega
      refine ⟨{j : Nat // j ≤ c}, fun n => meS c i ++ [.bool (b || abv (cpsOf c g) i n.1), .int .i64 n.1], fun _ => meH c T g x y s, fun n => c - n.1, ⟨0, by omega⟩, by show meS c i ++ [.bool (b || false), .int .i64 0] = _; rw [Bool.or_false]; rfl, rfl, ?_⟩
      rintro ⟨j, hj⟩
      show (ev K33 noL _ ⟨mkSlots 61 [0, 2, 6, 7, 8] (meS c i ++ [.bool (b || abv (cpsOf c g) i j), .int .i64 j]), meH c T g x y s⟩ (pkG 61 keepM2 2)).sat _
      rw [run_m2]
      refine sat_tst (fun ht => ?_) (fun ht => ?_)
      · have hlt : j < c := by have := of_decide_eq_true ht; omega
        have next : (b || abv (cpsOf c g) i (j + 1)) = (bif (b || abv (cpsOf c g) i j) then true else slt (cpOf (g i)).1 (cpOf (g j)).1) := by
          show (b || (abv (cpsOf c g) i j || slt ((cpsOf c g)[i]?.getD cz).1 ((cpsOf c g)[j]?.getD cz).1)) = _
          rw [cps_at g hi1, cps_at g hlt]
          cases b <;> cases abv (cpsOf c g) i j <;> rfl
        refine sat_tst (fun h1 => ?_) fun h1 => sat_ask ⟨by omega, by omega⟩ (sat_ask hi1 (sat_ask ⟨by omega, by omega⟩ (sat_ask hlt ?_)))
        · rw [h1] at next
          refine ⟨⟨j + 1, by omega⟩, ?_, rfl, by show c - (j + 1) < c - j; omega⟩
          show someL (meS c i ++ [.bool true, _]) = someL (meS c i ++ [.bool (b || abv (cpsOf c g) i (j + 1)), _])
          rw [next, wrap_at hlt (by omega)]
          rfl
        · rw [h1] at next
          refine ⟨⟨j + 1, by omega⟩, ?_, rfl, by show c - (j + 1) < c - j; omega⟩
          show someL (meS c i ++ [.bool _, _]) = someL (meS c i ++ [.bool (b || abv (cpsOf c g) i (j + 1)), _])
          rw [next, wrap_at hlt (by omega), rsl_eq]
          rfl
      · have hge : j = c := by have := of_decide_eq_false ht; omega
        subst hge
        exact ⟨_, rfl, h⟩
    · exact h.elim
  · exact h.elim
theorem lM2_ok : ∀ F, lM2 (key mInn) = some F → LOk K33.P mInn F := fun F h => by
  have hk : lM2 (key mInn) = some (lspec 61 keepM2 2 gM2L) := by kernel_rfl
  rw [hk] at h
  cases h
  exact loop_m2
theorem mInn_in : loops (bodyOf Try.f39 1) = [mInn] := by kernel_rfl
theorem loop_m3 : LOk K33.P (bodyOf Try.f39 1) (lspec 61 keepM3 2 gM3L) := lspec_ok K33_ok (L := lM2) (fun c' hc F h => by
    rw [mInn_in] at hc
    rw [List.mem_singleton.1 hc] at h ⊢
    exact lM2_ok F h) fun Φ vs H kk hm0 h => by
  unfold gM3L at h
  split at h
  · rename_i l c i sh m g T x y s
    split at h
    · rename_i hsh
      have := shEq_eq hsh
      subst this
      obtain ⟨⟨rfl, rfl, rfl, h0, hb⟩, h⟩ := h
      refine ⟨{j : Nat // j ≤ c ∧ ∀ i, i < j → abv (cpsOf c g) i c = true}, fun n => meS c n.1, fun _ => meH c T g x y s, fun n => c - n.1, ⟨0, by omega, fun i hi => by omega⟩, rfl, rfl, ?_⟩
      rintro ⟨j, hj, hz⟩
      show (ev K33 lM2 _ ⟨mkSlots 61 [0, 2, 6] (meS c j), meH c T g x y s⟩ (pkG 61 keepM3 2)).sat _
      rw [run_m3]
      refine sat_tst (fun ht => ?_) (fun ht => ?_)
      · have hlt : j < c := by have := of_decide_eq_true ht; omega
        refine sat_ask ⟨rfl, rfl, rfl, by omega, by omega, hb⟩ (sat_tst (fun h1 => sat_ask ⟨by omega, by omega⟩ (sat_ask hlt ?_)) fun h1 => ?_)
        · have h1 : (!abv (cpsOf c g) j c) = true := h1
          have h1 : abv (cpsOf c g) j c = false := by simpa using h1
          have e := lats_first (L := cpsOf c g) (i := j) (by rw [cps_len]; exact hlt) (by rw [cps_len]; exact hz) (by rw [cps_len]; exact h1)
          rw [e, cps_at g hlt] at h
          exact ⟨_, rfl, h⟩
        · have h1 : (!abv (cpsOf c g) j c) = false := h1
          have h1 : abv (cpsOf c g) j c = true := by simpa using h1
          refine ⟨⟨j + 1, by omega, fun i hi => ?_⟩, ?_, rfl, by show c - (j + 1) < c - j; omega⟩
          · by_cases e : i = j
            · subst e; exact h1
            · exact hz i (by omega)
          · rw [wrap_at hlt (by omega)]
      · have hge : j = c := by have := of_decide_eq_false ht; omega
        subst hge
        exact (lats_some (L := cpsOf j g) (by rw [cps_len]; exact h0) (by rw [cps_len]; exact hz)).elim
    · exact h.elim
  · exact h.elim
theorem m1_ok : ∀ F, lMe (key (bodyOf Try.f39 0)) = some F → LOk K33.P (bodyOf Try.f39 0) F := fun F h => by
  have hk : lMe (key (bodyOf Try.f39 0)) = some (lspec 61 keepM1 2 gM1L) := by kernel_rfl
  rw [hk] at h
  cases h
  exact loop_m1
theorem m3_ok : ∀ F, lMe (key (bodyOf Try.f39 1)) = some F → LOk K33.P (bodyOf Try.f39 1) F := fun F h => by
  have hk : lMe (key (bodyOf Try.f39 1)) = some (lspec 61 keepM3 2 gM3L) := by kernel_rfl
  rw [hk] at h
  cases h
  exact loop_m3
def aMe : List CA → Prop
  | [.rows _ m _] => 0 < m
  | _ => False
def gMe : List CA → Option Value
  | [.rows _ m g] => some (.tuple ⟨[.agg ⟨[.int .i64 (mgV (cpsOf m g)).1.1, .int .i64 (mgV (cpsOf m g)).1.2, .string (mgV (cpsOf m g)).2]⟩, .int .i64 (clE (cpsOf m g))]⟩)
  | _ => none
theorem q_me : QOk K33.P 39 (listA [.one (.rows cpK)] aMe gMe) := list_qA K33_ok Try.func39 rfl rfl (two_loops (by kernel_rfl) m1_ok m3_ok) fun cas r hb hk ha h => by
  unfold gMe at h
  split at h
  · rename_i sh m g
    obtain ⟨rfl, -⟩ := hk
    have h0 : 0 < m := ha
    cases h
    refine ⟨rfl, ?_⟩
    show (evV K33 lMe _ [.slice (some ⟨0, 0, some 0⟩) m m] [.recs cpK m g]).sat _
    rw [run_me]
    have hl := cps_len m g
    refine sat_tst (fun h1 => leaf_v ?_) (fun h1 => sat_ask ⟨rfl, rfl, rfl, by have := of_decide_eq_false h1; omega⟩ (sat_tst (fun h2 => leaf_v ?_) fun h2 => sat_ask ⟨rfl, rfl, rfl, h0, by have := of_decide_eq_false h1; omega⟩ (leaf_v ?_)))
    · have h1 := of_decide_eq_true h1
      have e : clE (cpsOf m g) = 2 := by unfold clE; rw [hl, if_pos (by omega)]
      unfold mgV
      rw [e, if_neg (by decide)]
      rfl
    · have h1 := of_decide_eq_false h1
      have e : clE (cpsOf m g) = cks (cpsOf m g) := by unfold clE; rw [hl, if_neg (by omega)]
      have h2 : cks (cpsOf m g) ≠ 0 := by simpa using h2
      unfold mgV
      rw [e, if_neg h2]
      rfl
    · have h1 := of_decide_eq_false h1
      have h2 : cks (cpsOf m g) = 0 := by simpa using h2
      have e : clE (cpsOf m g) = 0 := by unfold clE; rw [hl, if_neg (by omega)]; exact h2
      unfold mgV
      rw [e, if_pos rfl]
  · cases h
noncomputable def K34 : Kn := K33.addQ 39 (listA [.one (.rows cpK)] aMe gMe)
theorem K34_ok : K34.Ok := K33_ok.addQ q_me
end Go.Proofs.Ytbmbnbhedalcnab
