/- A cluster's own memory; the loop over its checks. Check of a cluster: contract. A message is taken away: what slices.Delete does. What a step does, as it is written. -/
import Derived.Test.YtpkckgdpdnkbeaaDc
import Derived.Deep.RegionLaw
import Derived.Lib.SliceRun
namespace Go.Proofs.Ytpkckgdpdnkbeaa
open Go.RowKit
abbrev CLK : CK := .agg [.rows wtK, .val, .rows cpK, .rows asK, .rows tmK, .rows msK, .val]
def aOwn : List CA → Prop
  | [.rows _ m _, _, .rows _ a _, .rows _ b _, .rows _ c _, .rows _ d _, _] => m ≤ 1000 ∧ a ≤ 1000 ∧ b ≤ 1000 ∧ c ≤ 1000 ∧ d ≤ 1000
  | _ => False
abbrev clR (m : Nat) (w : Nat → List Value) (need : Int) (a : Nat) (nd : Nat → List Value) (b : Nat) (ak : Nat → List Value) (c : Nat) (tm : Nat → List Value) (d : Nat) (nt : Nat → List Value) (clk : Int) : List RC := [.rows 3 wtK m w, .val (.int .i64 need), .rows 50 cpK a nd, .rows 53 asK b ak, .rows 55 tmK c tm, .rows 68 msK d nt, .val (.int .i64 clk)]
def gOwn : List CA → Option (List RC)
  | [.rows _ m w, .val (.int .i64 need), .rows _ a nd, .rows _ b ak, .rows _ c tm, .rows _ d nt, .val (.int .i64 clk)] => some (clR m w need a nd b ak c tm d nt clk)
  | _ => none
/-- a slice is handed out -/
abbrev outR {Φ : Lf} : Prop := (Out.done .ret ⟨[], []⟩).sat Φ
theorem run_own (m : Nat) (w : Nat → List Value) (need : Int) (a : Nat) (nd : Nat → List Value) (b : Nat) (ak : Nat → List Value) (c : Nat) (tm : Nat → List Value) (d : Nat) (nt : Nat → List Value) (clk : Int) : evR K26 noL Try.f23 [.agg ⟨[.slice (some ⟨0, 0, some 0⟩) m m, .int .i64 need, .slice (some ⟨1, 0, some 0⟩) a a, .slice (some ⟨2, 0, some 0⟩) b b, .slice (some ⟨3, 0, some 0⟩) c c, .slice (some ⟨4, 0, some 0⟩) d d, .int .i64 clk]⟩] [.recs wtK m w, .recs cpK a nd, .recs asK b ak, .recs tmK c tm, .recs msK d nt] [.agg [.rows wtK, .val, .rows cpK, .rows asK, .rows tmK, .rows msK, .val]] [.rows 3 wtK m w, .val (.int .i64 need), .rows 50 cpK a nd, .rows 53 asK b ak, .rows 55 tmK c tm, .rows 68 msK d nt, .val (.int .i64 clk)] = Out.ask (m ≤ m ∧ m ≤ (140737488355328 : Nat)) (Out.ask (aCln [CA.rows wtK m fun j => w j]) (Out.ask (a ≤ a ∧ a ≤ (140737488355328 : Nat)) (Out.ask (aCln [CA.rows cpK a fun j => nd j]) (Out.ask (b ≤ b ∧ b ≤ (140737488355328 : Nat)) (Out.ask (aCln [CA.rows asK b fun j => ak j]) (Out.ask (c ≤ c ∧ c ≤ (140737488355328 : Nat)) (Out.ask (aCln [CA.rows tmK c fun j => tm j]) (Out.ask (d ≤ d ∧ d ≤ (140737488355328 : Nat)) (Out.ask (aCln [CA.rows msK d fun j => nt j]) (Out.ask (m = m ∧ m ≤ m ∧ ∀ (j : Nat), j < m → norm wtK (w j) = norm wtK (w j)) (Out.ask (Value.int IntKind.i64 need = Value.int IntKind.i64 need) (Out.ask (a = a ∧ a ≤ a ∧ ∀ (j : Nat), j < a → norm cpK (nd j) = norm cpK (nd j)) (Out.ask (b = b ∧ b ≤ b ∧ ∀ (j : Nat), j < b → norm asK (ak j) = norm asK (ak j)) (Out.ask (c = c ∧ c ≤ c ∧ ∀ (j : Nat), j < c → norm tmK (tm j) = norm tmK (tm j)) (Out.ask (d = d ∧ d ≤ d ∧ ∀ (j : Nat), j < d → norm msK (nt j) = norm msK (nt j)) (Out.ask (Value.int IntKind.i64 clk = Value.int IntKind.i64 clk) (Out.done AE.ret { slots := [], heap := [] }))))))))))))))))) := by kernel_rfl
set_option maxRecDepth 100000 in
theorem f_own : FOk K26.P 23 (listF [CLK] [CLK] aOwn gOwn) := list_f K26_ok Try.func23 rfl rfl (no_loops rfl) fun cas rs hb hk ha h => by
  unfold gOwn at h
  split at h
  · rename_i s0 m w need s1 a nd s2 b ak s3 c tm s4 d nt clk
    have e0 := kind_rows (i := 0) hk rfl rfl
    subst e0
    have e1 := kind_rows (i := 2) hk rfl rfl
    subst e1
    have e2 := kind_rows (i := 3) hk rfl rfl
    subst e2
    have e3 := kind_rows (i := 4) hk rfl rfl
    subst e3
    have e4 := kind_rows (i := 5) hk rfl rfl
    subst e4
    obtain ⟨h1, h2, h3, h4, h5⟩ : m ≤ 1000 ∧ a ≤ 1000 ∧ b ≤ 1000 ∧ c ≤ 1000 ∧ d ≤ 1000 := ha
    cases h
    show (evR K26 noL _ [.agg ⟨[.slice (some ⟨0, 0, some 0⟩) m m, .int .i64 need, .slice (some ⟨1, 0, some 0⟩) a a, .slice (some ⟨2, 0, some 0⟩) b b, .slice (some ⟨3, 0, some 0⟩) c c, .slice (some ⟨4, 0, some 0⟩) d d, .int .i64 clk]⟩] [.recs wtK m w, .recs cpK a nd, .recs asK b ak, .recs tmK c tm, .recs msK d nt] [CLK] (clR m w need a nd b ak c tm d nt clk)).sat _
    rw [run_own]
    have le : ∀ {n : Nat}, n ≤ 1000 → n ≤ n ∧ n ≤ 140737488355328 := fun h => ⟨Nat.le_refl _, by omega⟩
    have fin : ∀ {n : Nat} {sh : List LK} {g : Nat → List Value}, n = n ∧ n ≤ n ∧ ∀ j, j < n → norm sh (g j) = norm sh (g j) := ⟨rfl, Nat.le_refl _, fun _ _ => rfl⟩
    exact sat_ask (le h1) (sat_ask h1 (sat_ask (le h2) (sat_ask h2 (sat_ask (le h3) (sat_ask h3 (sat_ask (le h4) (sat_ask h4 (sat_ask (le h5) (sat_ask h5 (sat_ask fin (sat_ask rfl (sat_ask fin (sat_ask fin (sat_ask fin (sat_ask fin (sat_ask rfl sat_end))))))))))))))))
  · cases h
noncomputable def lCk : Nat → Option LCon := oneL 3 (rounds K26 noL (bodyOf Try.f15 0) 6)
theorem lCk_ok : ∀ F, lCk (key (bodyOf Try.f15 0)) = some F → LOk K26.P (bodyOf Try.f15 0) F := fun F h => by
  have hk : lCk (key (bodyOf Try.f15 0)) = some (rounds K26 noL (bodyOf Try.f15 0) 6) := by kernel_rfl
  rw [hk] at h
  cases h
  exact rounds_ok K26_ok (L := noL) (fun _ _ _ h => by cases h) 6
theorem run_cchk (m : Nat) (w : Nat → List Value) (need : Int) (a : Nat) (nd : Nat → List Value) (b : Nat) (ak : Nat → List Value) (c : Nat) (tm : Nat → List Value) (d : Nat) (nt : Nat → List Value) (clk : Int) : evV K26 lCk Try.f15 [.agg ⟨[.slice (some ⟨0, 0, some 0⟩) m m, .int .i64 need, .slice (some ⟨1, 0, some 0⟩) a a, .slice (some ⟨2, 0, some 0⟩) b b, .slice (some ⟨3, 0, some 0⟩) c c, .slice (some ⟨4, 0, some 0⟩) d d, .int .i64 clk]⟩] [.recs wtK m w, .recs cpK a nd, .recs asK b ak, .recs tmK c tm, .recs msK d nt] = Out.ask ((0 : Int) ≤ (0 : Int) ∧ (0 : Int) < (5 : Int)) (Out.ask (m ≤ m ∧ m ≤ (140737488355328 : Nat)) (Out.ask (a ≤ a ∧ a ≤ (140737488355328 : Nat)) (Out.ask (b ≤ b ∧ b ≤ (140737488355328 : Nat)) (Out.ask (c ≤ c ∧ c ≤ (140737488355328 : Nat)) (Out.ask (d ≤ d ∧ d ≤ (140737488355328 : Nat)) (tst (x_cvot m (fun j => w j) need != (0 : Int)) (Out.done AE.ret { slots := [some (Value.int IntKind.i64 (x_cvot m (fun j => w j) need))], heap := [] }) (Out.ask ((0 : Int) ≤ (1 : Int) ∧ (1 : Int) < (5 : Int)) (Out.ask (m ≤ m ∧ m ≤ (140737488355328 : Nat)) (Out.ask (a ≤ a ∧ a ≤ (140737488355328 : Nat)) (Out.ask (b ≤ b ∧ b ≤ (140737488355328 : Nat)) (Out.ask (c ≤ c ∧ c ≤ (140737488355328 : Nat)) (Out.ask (d ≤ d ∧ d ≤ (140737488355328 : Nat)) (tst ((x_cno m a fun j => nd j) != (0 : Int)) (Out.done AE.ret { slots := [some (Value.int IntKind.i64 (x_cno m a fun j => nd j))], heap := [] }) (Out.ask ((0 : Int) ≤ (2 : Int) ∧ (2 : Int) < (5 : Int)) (Out.ask (m ≤ m ∧ m ≤ (140737488355328 : Nat)) (Out.ask (a ≤ a ∧ a ≤ (140737488355328 : Nat)) (Out.ask (b ≤ b ∧ b ≤ (140737488355328 : Nat)) (Out.ask (c ≤ c ∧ c ≤ (140737488355328 : Nat)) (Out.ask (d ≤ d ∧ d ≤ (140737488355328 : Nat)) (tst (x_cas m (fun j => w j) need b (fun j => ak j) c (fun j => tm j) clk != (0 : Int)) (Out.done AE.ret { slots := [some (Value.int IntKind.i64 (x_cas m (fun j => w j) need b (fun j => ak j) c (fun j => tm j) clk))], heap := [] }) (Out.ask ((0 : Int) ≤ (3 : Int) ∧ (3 : Int) < (5 : Int)) (Out.ask (m ≤ m ∧ m ≤ (140737488355328 : Nat)) (Out.ask (a ≤ a ∧ a ≤ (140737488355328 : Nat)) (Out.ask (b ≤ b ∧ b ≤ (140737488355328 : Nat)) (Out.ask (c ≤ c ∧ c ≤ (140737488355328 : Nat)) (Out.ask (d ≤ d ∧ d ≤ (140737488355328 : Nat)) (tst ((x_cne a b d fun j => nt j) != (0 : Int)) (Out.done AE.ret { slots := [some (Value.int IntKind.i64 (x_cne a b d fun j => nt j))], heap := [] }) (Out.ask ((0 : Int) ≤ (4 : Int) ∧ (4 : Int) < (5 : Int)) (Out.ask (m ≤ m ∧ m ≤ (140737488355328 : Nat)) (Out.ask (a ≤ a ∧ a ≤ (140737488355328 : Nat)) (Out.ask (b ≤ b ∧ b ≤ (140737488355328 : Nat)) (Out.ask (c ≤ c ∧ c ≤ (140737488355328 : Nat)) (Out.ask (d ≤ d ∧ d ≤ (140737488355328 : Nat)) (tst (x_cclk clk != (0 : Int)) (Out.done AE.ret { slots := [some (Value.int IntKind.i64 (x_cclk clk))], heap := [] }) (Out.done AE.ret { slots := [some (Value.int IntKind.i64 (0 : Int))], heap := [] }))))))))))))))))))))))))))))))))))) := by kernel_rfl
def x_cchk (m : Nat) (w : Nat → List Value) (need : Int) (a : Nat) (nd : Nat → List Value) (b : Nat) (ak : Nat → List Value) (c : Nat) (tm : Nat → List Value) (d : Nat) (nt : Nat → List Value) (clk : Int) : Int := (bif x_cvot m (fun j => w j) need != (0 : Int) then (x_cvot m (fun j => w j) need) else (bif (x_cno m a fun j => nd j) != (0 : Int) then (x_cno m a fun j => nd j) else (bif x_cas m (fun j => w j) need b (fun j => ak j) c (fun j => tm j) clk != (0 : Int) then (x_cas m (fun j => w j) need b (fun j => ak j) c (fun j => tm j) clk) else (bif (x_cne a b d fun j => nt j) != (0 : Int) then (x_cne a b d fun j => nt j) else (bif x_cclk clk != (0 : Int) then (x_cclk clk) else (0 : Int))))))
def g_cchk : List CA → Option Value
  | [.rows _ m w, .val (.int .i64 need), .rows _ a nd, .rows _ b ak, .rows _ c tm, .rows _ d nt, .val (.int .i64 clk)] => some (.int .i64 (x_cchk m w need a nd b ak c tm d nt clk))
  | _ => none
theorem q_cchk : QOk K26.P 15 (listC [.agg [.rows wtK, .val, .rows cpK, .rows asK, .rows tmK, .rows msK, .val]] g_cchk) := list_q K26_ok Try.func15 rfl rfl (one_loop (by kernel_rfl) lCk_ok) fun cas r hb hk h => by
  unfold g_cchk at h
  split at h
  · rename_i sh0 m w need sh0 a nd sh0 b ak sh0 c tm sh0 d nt clk
    have e0 := kind_rows (i := 0) hk rfl rfl
    have hbm := bnd_rows (i := 0) hb rfl
    subst e0
    have e0 := kind_rows (i := 2) hk rfl rfl
    have hba := bnd_rows (i := 2) hb rfl
    subst e0
    have e0 := kind_rows (i := 3) hk rfl rfl
    have hbb := bnd_rows (i := 3) hb rfl
    subst e0
    have e0 := kind_rows (i := 4) hk rfl rfl
    have hbc := bnd_rows (i := 4) hb rfl
    subst e0
    have e0 := kind_rows (i := 5) hk rfl rfl
    have hbd := bnd_rows (i := 5) hb rfl
    subst e0
    cases h
    refine ⟨rfl, ?_⟩
    show (evV K26 lCk _ [.agg ⟨[.slice (some ⟨0, 0, some 0⟩) m m, .int .i64 need, .slice (some ⟨1, 0, some 0⟩) a a, .slice (some ⟨2, 0, some 0⟩) b b, .slice (some ⟨3, 0, some 0⟩) c c, .slice (some ⟨4, 0, some 0⟩) d d, .int .i64 clk]⟩] [.recs wtK m w, .recs cpK a nd, .recs asK b ak, .recs tmK c tm, .recs msK d nt]).sat _
    rw [run_cchk]
    exact sat_ask (by first | omega | exact ⟨Nat.le_refl _, by assumption⟩ | exact ⟨rfl, rfl⟩ | simp_all) (sat_ask (by first | omega | exact ⟨Nat.le_refl _, by assumption⟩ | exact ⟨rfl, rfl⟩ | simp_all) (sat_ask (by first | omega | exact ⟨Nat.le_refl _, by assumption⟩ | exact ⟨rfl, rfl⟩ | simp_all) (sat_ask (by first | omega | exact ⟨Nat.le_refl _, by assumption⟩ | exact ⟨rfl, rfl⟩ | simp_all) (sat_ask (by first | omega | exact ⟨Nat.le_refl _, by assumption⟩ | exact ⟨rfl, rfl⟩ | simp_all) (sat_ask (by first | omega | exact ⟨Nat.le_refl _, by assumption⟩ | exact ⟨rfl, rfl⟩ | simp_all) (sat_tst (fun h0 => leaf_v (by simp only [x_cchk, h0, cond_true])) (fun h0 => sat_ask (by first | omega | exact ⟨Nat.le_refl _, by assumption⟩ | exact ⟨rfl, rfl⟩ | simp_all) (sat_ask (by first | omega | exact ⟨Nat.le_refl _, by assumption⟩ | exact ⟨rfl, rfl⟩ | simp_all) (sat_ask (by first | omega | exact ⟨Nat.le_refl _, by assumption⟩ | exact ⟨rfl, rfl⟩ | simp_all) (sat_ask (by first | omega | exact ⟨Nat.le_refl _, by assumption⟩ | exact ⟨rfl, rfl⟩ | simp_all) (sat_ask (by first | omega | exact ⟨Nat.le_refl _, by assumption⟩ | exact ⟨rfl, rfl⟩ | simp_all) (sat_ask (by first | omega | exact ⟨Nat.le_refl _, by assumption⟩ | exact ⟨rfl, rfl⟩ | simp_all) (sat_tst (fun h1 => leaf_v (by simp only [x_cchk, h0, h1, cond_true, cond_false])) (fun h1 => sat_ask (by first | omega | exact ⟨Nat.le_refl _, by assumption⟩ | exact ⟨rfl, rfl⟩ | simp_all) (sat_ask (by first | omega | exact ⟨Nat.le_refl _, by assumption⟩ | exact ⟨rfl, rfl⟩ | simp_all) (sat_ask (by first | omega | exact ⟨Nat.le_refl _, by assumption⟩ | exact ⟨rfl, rfl⟩ | simp_all) (sat_ask (by first | omega | exact ⟨Nat.le_refl _, by assumption⟩ | exact ⟨rfl, rfl⟩ | simp_all) (sat_ask (by first | omega | exact ⟨Nat.le_refl _, by assumption⟩ | exact ⟨rfl, rfl⟩ | simp_all) (sat_ask (by first | omega | exact ⟨Nat.le_refl _, by assumption⟩ | exact ⟨rfl, rfl⟩ | simp_all) (sat_tst (fun h2 => leaf_v (by simp only [x_cchk, h0, h1, h2, cond_true, cond_false])) (fun h2 => sat_ask (by first | omega | exact ⟨Nat.le_refl _, by assumption⟩ | exact ⟨rfl, rfl⟩ | simp_all) (sat_ask (by first | omega | exact ⟨Nat.le_refl _, by assumption⟩ | exact ⟨rfl, rfl⟩ | simp_all) (sat_ask (by first | omega | exact ⟨Nat.le_refl _, by assumption⟩ | exact ⟨rfl, rfl⟩ | simp_all) (sat_ask (by first | omega | exact ⟨Nat.le_refl _, by assumption⟩ | exact ⟨rfl, rfl⟩ | simp_all) (sat_ask (by first | omega | exact ⟨Nat.le_refl _, by assumption⟩ | exact ⟨rfl, rfl⟩ | simp_all) (sat_ask (by first | omega | exact ⟨Nat.le_refl _, by assumption⟩ | exact ⟨rfl, rfl⟩ | simp_all) (sat_tst (fun h3 => leaf_v (by simp only [x_cchk, h0, h1, h2, h3, cond_true, cond_false])) (fun h3 => sat_ask (by first | omega | exact ⟨Nat.le_refl _, by assumption⟩ | exact ⟨rfl, rfl⟩ | simp_all) (sat_ask (by first | omega | exact ⟨Nat.le_refl _, by assumption⟩ | exact ⟨rfl, rfl⟩ | simp_all) (sat_ask (by first | omega | exact ⟨Nat.le_refl _, by assumption⟩ | exact ⟨rfl, rfl⟩ | simp_all) (sat_ask (by first | omega | exact ⟨Nat.le_refl _, by assumption⟩ | exact ⟨rfl, rfl⟩ | simp_all) (sat_ask (by first | omega | exact ⟨Nat.le_refl _, by assumption⟩ | exact ⟨rfl, rfl⟩ | simp_all) (sat_ask (by first | omega | exact ⟨Nat.le_refl _, by assumption⟩ | exact ⟨rfl, rfl⟩ | simp_all) (sat_tst (fun h4 => leaf_v (by simp only [x_cchk, h0, h1, h2, h3, h4, cond_true, cond_false])) (fun h4 => leaf_v (by simp only [x_cchk, h0, h1, h2, h3, h4, cond_false]))))))))))))))))))))))))))))))))))))
  · cases h
noncomputable def K27 : Kn := K26.addQ 15 (listC [.agg [.rows wtK, .val, .rows cpK, .rows asK, .rows tmK, .rows msK, .val]] g_cchk)
theorem K27_ok : K27.Ok := K26_ok.addQ q_cchk
noncomputable def K28 : Kn := K27.addF 23 (listF [CLK] [CLK] aOwn gOwn)
theorem K28_ok : K28.Ok := K27_ok.addF f_own
theorem undM : Try.prog.underlying 28 = some (.slice 68) := by kernel_rfl
abbrev zMsg : Value := .agg #[.int .i64 0, .int .i64 0, .int .i64 0, .int .i64 0, .int .i64 0, .string ⟨#[]⟩]
theorem zeroM (w : World) : (zeroValue 68).run Try.prog w = .ok zMsg w := by kernel_rfl
theorem infM : ∃ i, Try.prog.info? 68 = some i ∧ i.size = 6 := by
  have h : (Try.prog.info? 68).map (·.size) = some 6 := by kernel_rfl
  cases e : Try.prog.info? 68 with
  | none => rw [e] at h; cases h
  | some i => rw [e] at h; exact ⟨i, rfl, by simpa using h⟩
theorem setCells_onl {b : Nat} {T : TypeId} : ∀ (vs us : List Value) (o : Nat) (w : World), w.heap[b]? = some (.cells ⟨us⟩ T) → o + vs.length ≤ us.length → Onl b w (w.setCells b o vs) ∧ (w.setCells b o vs).heap[b]? = some (.cells ⟨putAt us o vs⟩ T)
  | [], us, o, w, hb, _ => ⟨Onl.refl b w, hb⟩
  | v :: vs, us, o, w, hb, hl => by
    simp only [List.length_cons] at hl
    have hw1 : (w.setCell ⟨b, o, none⟩ v).heap[b]? = some (.cells ⟨us.set o v⟩ T) := by
      simp [World.setCell, Array.getElem?_modify, hb]
    have ho : Onl b w (w.setCell ⟨b, o, none⟩ v) := ⟨rfl, rfl, rfl, by simp [World.setCell], fun k hk => Below.heap_setCell _ _ _ _ hk⟩
    obtain ⟨h1, h2⟩ := setCells_onl vs (us.set o v) (o + 1) _ hw1 (by simp; omega)
    refine ⟨ho.trans h1, ?_⟩
    simp only [putAt, setL_eq]
    exact h2
theorem zerosM : (Builtin.zeroCells zMsg.cells 1).toList = cellsL zMsg := by kernel_rfl
theorem run_clearM (w : World) (ty : TypeId) (g o c : Nat) (hc : ∀ j, j < 6 → (w.cell? ⟨g, o + j, none⟩).isSome = true) (hf : ∀ j, j < 6 → w.frozen? ⟨g, o + j, none⟩ = false) :
    (Builtin.clear_ #[28] ty #[.slice (some ⟨g, o, none⟩) 1 c]).run Try.prog w = .ok (.tuple #[]) (w.setCells g o (cellsL zMsg)) := by
  have hst := run_storeCells_cells (P := Try.prog) g o (Builtin.zeroCells zMsg.cells 1).toList 0 w (fun j hj => by rw [Nat.add_zero]; exact hc j (by rw [zerosM] at hj; exact hj)) (fun j hj => by rw [Nat.add_zero]; exact hf j (by rw [zerosM] at hj; exact hj)) (by
    rw [zerosM]
    intro v hv
    simp only [cellsL, List.mem_cons, List.not_mem_nil, or_false] at hv
    rcases hv with rfl | rfl | rfl | rfl | rfl | rfl <;> rfl)
  simp only [Nat.add_zero] at hst
  rw [zerosM] at hst
  simp [Builtin.clear_, run_underlying undM, zerosM, hst]
set_option maxRecDepth 100000 in
set_option maxHeartbeats 2000000 in
theorem delete_walk (b n q i : Nat) (us : List Value) (w : World) (hb : w.heap[b]? = some (.cells ⟨us⟩ 68)) (hl : us.length = q * 6) (h1 : ∀ u ∈ us.take (n * 6), u.oneCell' = true) (hq : n ≤ q) (_hm : q ≤ 9223372036854775807) (hi : i < n) :
    Calls Try.prog 83 #[.slice (some ⟨b, 0, none⟩) n q, .int .i64 (i : Nat), .int .i64 ((i + 1 : Nat) : Int)] w fun e w' => e = .returned (.slice (some ⟨b, 0, none⟩) (n - 1) q) ∧ Onl b w w' ∧ w'.heap[b]? = some (.cells ⟨putAt (putAt us (i * 6) ((us.take (n * 6)).drop ((i + 1) * 6))) ((n - 1) * 6) (cellsL zMsg)⟩ 68) := by
  obtain ⟨news, hnews⟩ : ∃ news, news = (us.take (n * 6)).drop ((i + 1) * 6) := ⟨_, rfl⟩
  have hlen : news.length = (n - (i + 1)) * 6 := by
    rw [hnews, List.length_drop, List.length_take, hl, Nat.min_eq_left (Nat.mul_le_mul_right _ hq), ← Nat.sub_mul]
  obtain ⟨it, hit, his⟩ := infM
  have hcell : ∀ j, j < q * 6 → w.cell? ⟨b, j, none⟩ = us[j]? := fun j hj => by simp [World.cell?, hb]
  have hfr : ∀ (w1 : World) us1 j, w1.heap[b]? = some (.cells ⟨us1⟩ 68) → w1.frozen? ⟨b, j, none⟩ = false := fun w1 us1 j h => by simp [World.frozen?, h]
  obtain ⟨A, hA, hsrc⟩ : ∃ A : Addr, (if q = i + 1 then some (⟨b, 0, none⟩ : Addr) else some ⟨b, (i + 1) * 6, none⟩) = some A ∧ Hid (∀ t u, news[t]? = some u → w.drew.cell? (A.add t) = some u) := by
    by_cases h : q = i + 1
    · refine ⟨⟨b, 0, none⟩, by simp [h], fun t u hu => ?_⟩
      have h0 : news.length = 0 := by rw [hlen]; omega
      rw [List.length_eq_zero_iff.1 h0] at hu
      simp at hu
    · refine ⟨⟨b, (i + 1) * 6, none⟩, by simp [h], fun t u hu => ?_⟩
      have ht : t < (n - (i + 1)) * 6 := by
        have := (List.getElem?_eq_some_iff.1 hu).1
        rwa [hlen] at this
      rw [Addr.add_lit]
      show w.cell? _ = _
      rw [hcell _ (by omega), ← hu, hnews, List.getElem?_drop, List.getElem?_take, if_pos (by omega)]
  have s1 : Hid (news.length = (n - (i + 1)) * 6) := hlen
  have s2 : Hid (∀ u ∈ news, u.oneCell' = true) := fun u hu => h1 u (by rw [hnews] at hu; exact List.mem_of_mem_drop hu)
  have s3 : Hid (∀ t, t < news.length → (w.drew.cell? ⟨b, 0 + i * 6 + t, none⟩).isSome = true ∧ w.drew.frozen? ⟨b, 0 + i * 6 + t, none⟩ = false) := fun t ht => by
    rw [hlen] at ht
    refine ⟨?_, hfr w.drew us _ hb⟩
    show (w.cell? _).isSome = true
    rw [hcell _ (by omega), List.getElem?_eq_getElem (by omega)]
    rfl
  obtain ⟨W1, hW1⟩ : ∃ W1, W1 = w.drew.setCells b (0 + i * 6) news := ⟨_, rfl⟩
  obtain ⟨o1, p1⟩ := setCells_onl news us (0 + i * 6) w.drew hb (by omega)
  rw [← hW1] at o1 p1
  have o0 : Onl b w w.drew := ⟨rfl, rfl, rfl, rfl, fun _ _ => rfl⟩
  have pl : (putAt us (0 + i * 6) news).length = q * 6 := by rw [putAt_len, hl]
  have hcl : ∀ ty, (Builtin.clear_ #[28] ty #[.slice (some ⟨b, (i + (n - (i + 1))) * 6, none⟩) (n - (i + (n - (i + 1)))) (q - (i + (n - (i + 1))))]).run Try.prog W1 = .ok (.tuple #[]) (W1.setCells b ((i + (n - (i + 1))) * 6) (cellsL zMsg)) := fun ty => by
    rw [show n - (i + (n - (i + 1))) = 1 by omega]
    refine run_clearM W1 ty b _ _ (fun j hj => ?_) (fun j _ => hfr W1 _ _ p1)
    rw [show W1.cell? ⟨b, (i + (n - (i + 1))) * 6 + j, none⟩ = (putAt us (0 + i * 6) news)[(i + (n - (i + 1))) * 6 + j]? from by simp [World.cell?, p1], List.getElem?_eq_getElem (by omega)]
    rfl
  obtain ⟨o2, p2⟩ := setCells_onl (cellsL zMsg) (putAt us (0 + i * 6) news) ((i + (n - (i + 1))) * 6) W1 p1 (by rw [pl]; show (i + (n - (i + 1))) * 6 + 6 ≤ q * 6; omega)
  have HF : Hid (Onl b w (W1.setCells b ((i + (n - (i + 1))) * 6) (cellsL zMsg)) ∧ (W1.setCells b ((i + (n - (i + 1))) * 6) (cellsL zMsg)).heap[b]? = some (.cells ⟨putAt (putAt us (i * 6) news) ((n - 1) * 6) (cellsL zMsg)⟩ 68)) := by
    refine ⟨o0.trans (o1.trans o2), ?_⟩
    rw [p2, Nat.zero_add, show i + (n - (i + 1)) = n - 1 by omega]
  have hW : Hid (W1 = w.drew.setCells b (0 + i * 6) news) := hW1
  have hiq : i ≤ q := by omega
  have hjq : i + 1 ≤ q := by omega
  have hin : (i : Int) + 1 ≤ (n : Int) := by omega
  have hin0 : (0 : Int) ≤ (i : Int) + 1 := by omega
  rw [← hnews]
  clear hW1 hlen hcell hfr o1 p1 o0 pl o2 p2 hb hl h1 hnews
  go_enter Try.func83, Try.ntmps83
  go_wp2_with fail
  go_region_law (refine step_append_room rfl (.tmp 22) (.tmp 25) 28 rfl 68 it 6 undM hit his b 0 i q (by simp [Act.eval, Act.put]) A (n - (i + 1)) (q - (i + 1)) news (by simp [Act.eval, Act.put]) s1.out hsrc.out s2.out (by omega) s3.out ?_; rw [← hW.out])
  go_wp2_with fail
  go_ret
  refine ⟨by rw [show i + (n - (i + 1)) = n - 1 by omega]; rfl, HF.out⟩
theorem flat_add (sh : List LK) (g : Nat → List Value) (a : Nat) : ∀ b, flat sh (a + b) g = flat sh a g ++ flat sh b (fun k => g (a + k))
  | 0 => by simp [flat]
  | b + 1 => by rw [show a + (b + 1) = (a + b) + 1 by omega, flat_succ, flat_add sh g a b, flat_succ, List.append_assoc]
theorem put_take {us news z : List Value} {o1 o2 : Nat} (h1 : o1 + news.length = o2) (h2 : o2 + z.length ≤ us.length) : (putAt (putAt us o1 news) o2 z).take o2 = us.take o1 ++ news := by
  refine List.ext_getElem? fun j => ?_
  rw [List.getElem?_take, putAt_at _ _ _ _ (by rw [putAt_len]; exact h2), putAt_at _ _ _ _ (by omega), List.getElem?_append, List.length_take, Nat.min_eq_left (by omega)]
  by_cases hj : j < o2
  · rw [if_pos hj, if_neg (by omega)]
    by_cases hk : j < o1
    · rw [if_neg (by omega), if_pos hk, List.getElem?_take, if_pos hk]
    · rw [if_pos (by omega), if_neg hk]
  · rw [if_neg hj, if_neg (by omega), List.getElem?_eq_none (by omega)]
/-- a list without the i-th -/
def delG (i : Nat) (g : Nat → List Value) : Nat → List Value := joinG i g fun k => g (i + 1 + k)
theorem flat_del (sh : List LK) (g : Nat → List Value) {i n : Nat} (h : i < n) : (flat sh n g).take (i * sh.length) ++ (flat sh n g).drop ((i + 1) * sh.length) = flat sh (n - 1) (delG i g) := by
  have e1 : (flat sh n g).take (i * sh.length) = flat sh i g := flat_take sh g (by omega)
  have e2 : (flat sh n g).drop ((i + 1) * sh.length) = flat sh (n - 1 - i) (fun k => g (i + 1 + k)) := by
    rw [show n = (i + 1) + (n - 1 - i) by omega, flat_add, ← flat_len sh g (i + 1), List.drop_left, show (i + 1) + (n - 1 - i) - 1 - i = n - 1 - i by omega]
  rw [e1, e2, flat_join, show i + (n - 1 - i) = n - 1 by omega]
  rfl
def delF : MCon := fun args H k =>
  match args with
  | [.slice (some ⟨x, 0, some 0⟩) l _, .int .i64 a, .int .i64 b] => (match nthL H x with
    | some (.row e sh n g) => (match Nat.beq e 68 && shEq sh msK with
      | true => .ask (l = n ∧ 0 ≤ a ∧ a < (n : Int) ∧ b = a + 1) (k (.slice (some ⟨x, 0, some 0⟩) (n - 1) (n - 1)) (setL H x (.row 68 msK (n - 1) (delG a.toNat g))))
      | false => .bad)
    | _ => .bad)
  | _ => .bad
theorem del_ok : MOk Try.prog 83 delF := by
  refine ⟨enter_ok Try.func83 rfl rfl, fun Φ args H k h base w0 ρ w us hc hr R hk => ?_⟩
  unfold delF at h
  split at h
  · rename_i x l c0 a b0
    split at h
    · rename_i e sh n g ho
      rw [nthL_eq] at ho
      split at h
      · rename_i hb
        rw [Bool.and_eq_true, Nat.beq_eq] at hb
        obtain ⟨rfl, hsh⟩ := hb
        have := shEq_eq hsh
        subst this
        obtain ⟨⟨rfl, ha0, han, rfl⟩, h⟩ := h
        obtain ⟨i, rfl⟩ : ∃ i : Nat, a = i := ⟨a.toNat, by omega⟩
        have hi : i < l := by omega
        obtain ⟨u1, us1, rfl, r1, hr⟩ := hr.cons_inv
        obtain ⟨u2, us2, rfl, r2, hr⟩ := hr.cons_inv
        obtain ⟨u3, us3, rfl, r3, hr⟩ := hr.cons_inv
        have := hr.nil_inv
        subst this
        have q2 := (clean_Rn (by rfl)).1 r2
        have q3 := (clean_Rn (by rfl)).1 r3
        subst q2
        subst q3
        obtain ⟨l0, g1, g0, g2⟩ := hc.obj x _ ho
        rcases r1.sliceA with ⟨b, s, z, q, hm, hlc, hcc, _, hq, rfl⟩ | ⟨rfl, rfl, ad, rfl⟩
        · rw [hm] at g1
          cases g1
          obtain ⟨z1, z2⟩ := z
          obtain ⟨rfl, hz⟩ := g0 b s _ rfl
          have e1 := hq 0 rfl
          simp only [Nat.zero_add] at e1
          subst e1
          rcases g2.2 with ⟨e2, -⟩ | ⟨b', cap, cur, e2, hbb, hg, hnc, hcm, hcs, ht⟩
          · cases e2
          · obtain ⟨us⟩ := cur
            simp only [rowV, Value.slice.injEq, Option.some.injEq, Addr.mk.injEq] at e2
            obtain ⟨⟨rfl, -, -⟩, -, rfl⟩ := e2
            have hz : z1 = 6 := hz
            subst hz
            have hl : us.length = q * 6 := by simpa using hcs
            have ht : us.take (l * 6) = flat msK l g := ht
            have hmx : q ≤ 9223372036854775807 := by simp only [maxLen] at hcm; omega
            have hln : ((us.take (l * 6)).drop ((i + 1) * 6)).length = (l - 1 - i) * 6 := by
              rw [List.length_drop, List.length_take, hl]
              omega
            refine (delete_walk b l q i us w hg hl (fun u hu => flat_clean msK g l u (by rw [← ht]; exact hu)) hnc hmx hi).mono ?_
            rintro e w' ⟨rfl, honl, hh⟩
            have hoc : OC base ρ w' x (.row 68 msK (l - 1) (delG i g)) := by
              refine ⟨_, hm, g0, flat_len _ _ _, .inr ⟨b, q, _, rfl, hbb, hh, by omega, hcm, ?_, ?_⟩⟩
              · simp only [List.size_toArray, putAt_len]
                exact hl
              · show List.take ((l - 1) * 6) _ = _
                rw [put_take (by rw [hln]; omega) (by rw [hl]; show (l - 1) * 6 + 6 ≤ q * 6; omega), ← flat_del msK g hi, ← ht]
                congr 1
                show us.take (i * 6) = (us.take (l * 6)).take (i * 6)
                rw [List.take_take, Nat.min_eq_left (by omega)]
            refine hk _ _ ρ w' _ h (by rw [setL_eq]; exact hc.setO ho rfl hm hbb hoc honl) (RLe.refl _) ?_
            have := Rn.sliceR (ρ := ρ) (i := x) (o := 0) (r := 0) (l - 1) (l - 1) q hm (Nat.le_refl _) (by omega) (by simp)
            simpa using this
        · omega
      · exact h.elim
    · exact h.elim
  · exact h.elim
noncomputable def K29 : Kn := K28.addM 83 delF
theorem K29_ok : K29.Ok := K28_ok.addM del_ok
noncomputable def K30 : Kn := K29.addM 82 (inl K29 noL Try.f82)
theorem K30_ok : K30.Ok := K29_ok.addM (inl_ok K29_ok Try.func82 rfl rfl (no_loops rfl))
noncomputable def K31 : Kn := K30.addM 90 (inl K30 noL Try.f90)
theorem K31_ok : K31.Ok := K30_ok.addM (inl_ok K30_ok Try.func90 rfl rfl (no_loops rfl))
noncomputable def K32 : Kn := K31.addM 84 (inl K31 noL Try.f84)
theorem K32_ok : K32.Ok := K31_ok.addM (inl_ok K31_ok Try.func84 rfl rfl (no_loops rfl))
noncomputable def K33 : Kn := K32.addM 67 (inl K32 noL Try.f67)
theorem K33_ok : K33.Ok := K32_ok.addM (inl_ok K32_ok Try.func67 rfl rfl (no_loops rfl))
noncomputable def K34 : Kn := K33.addM 68 (inl K33 noL Try.f68)
theorem K34_ok : K34.Ok := K33_ok.addM (inl_ok K33_ok Try.func68 rfl rfl (no_loops rfl))
noncomputable def K35 : Kn := K34.addM 50 (inl K34 noL Try.f50)
theorem K35_ok : K35.Ok := K34_ok.addM (inl_ok K34_ok Try.func50 rfl rfl (no_loops rfl))
end Go.Proofs.Ytpkckgdpdnkbeaa
