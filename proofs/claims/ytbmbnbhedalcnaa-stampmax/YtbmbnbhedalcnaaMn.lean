/- The greatest of two lists: the law's loop. -/
import Derived.Test.YtbmbnbhedalcnaaMh
namespace Go.Proofs.Ytbmbnbhedalcnaa
open Go.RowKit
theorem run_sbegun : evV K25 noL Try.f10 [] [] = .ask ((3 : Nat) ≤ 3 ∧ (3 : Nat) ≤ 140737488355328) (.ask ((1 : Nat) ≤ 1 ∧ (1 : Nat) ≤ 140737488355328) (.ask ((1 : Nat) ≤ 1 ∧ (1 : Nat) ≤ 140737488355328) (.done .ret ⟨[some (.bool true)], []⟩))) := by kernel_rfl
theorem q_sbegun : QOk K25.P 10 (listC [] gTrue) := list_q K25_ok Try.func10 rfl rfl (no_loops rfl) fun cas r _hb _hk h => by
  unfold gTrue at h
  split at h
  · cases h
    refine ⟨rfl, ?_⟩
    show (evV K25 noL _ [] []).sat _
    rw [run_sbegun]
    exact sat_ask (by decide) (sat_ask (by decide) (sat_ask (by decide) rfl))
  · cases h
noncomputable def K27 : Kn := K25.addQ 10 (listC [] gTrue)
theorem K27_ok : K27.Ok := K25_ok.addQ q_sbegun
theorem K27_P : K27.P = Try.prog := rfl
/-- was it found among the first k? -/
def fndN (g : Nat → List Value) (t w : Int) (b : Bool) : Nat → Bool
  | 0 => b
  | k + 1 => bif fndN g t w b k then true else decide (intV (hdV (g k)) = t ∧ intV (hdV (tlV (g k))) = w)
def keepSM : AE → List Nat
  | .normal => [0, 1, 2, 7, 9, 10]
  | .exit _ => [0, 1, 2, 7, 9]
  | .ret => []
def gSML : List Value → List AObj → (AE → List Value → List AObj → Out) → Out
  | [.slice (some ⟨0, 0, some 0⟩) l c, .slice (some ⟨1, 0, some 0⟩) l2 c2, .int .i64 i, .pointer (some ⟨2, 0, none⟩), .bool b, .int .i64 k], [.recs sh m g, .recs sh2 m2 h, .cells T [.int .i64 t, .int .i64 w]], kk => (match shEq sh stK && shEq sh2 stK with
    | true => .ask (l = m ∧ c = m ∧ l2 = m2 ∧ c2 = m2 ∧ k = 0 ∧ m ≤ 140737488355328)
        (kk (.exit 0) [.slice (some ⟨0, 0, some 0⟩) m m, .slice (some ⟨1, 0, some 0⟩) m2 m2, .int .i64 i, .pointer (some ⟨2, 0, none⟩), .bool (fndN g t w b m)] [.recs sh m g, .recs sh2 m2 h, .cells T [.int .i64 t, .int .i64 w]])
    | false => .bad)
  | _, _, _ => .bad
def lSM : Nat → Option LCon := oneL 8 (lspec 99 keepSM 3 gSML)
abbrev smS (m m2 : Nat) (i : Int) (b : Bool) (k : Int) : List Value := [.slice (some ⟨0, 0, some 0⟩) m m, .slice (some ⟨1, 0, some 0⟩) m2 m2, .int .i64 i, .pointer (some ⟨2, 0, none⟩), .bool b, .int .i64 k]
abbrev smH (m m2 T : Nat) (g h : Nat → List Value) (t w : Int) : List AObj := [.recs stK m g, .recs stK m2 h, .cells T [.int .i64 t, .int .i64 w]]
theorem run_smB (m m2 k T : Nat) (g h : Nat → List Value) (t w i : Int) (b : Bool) : ev K27 noL (bodyOf Try.f3 0) ⟨mkSlots 99 [0, 1, 2, 7, 9, 10] (smS m m2 i b k), smH m m2 T g h t w⟩ (pkG 99 keepSM 3) =
    tst (decide ((k : Int) < (m : Int))) (tst b (.done .normal ⟨someL (smS m m2 i true (IntKind.wrap .i64 ((k : Int) + 1))), smH m m2 T g h t w⟩)
      (.ask ((0 : Int) ≤ (k : Int) ∧ (k : Int) < (m : Int)) (.ask (k < m) (.done .normal ⟨someL (smS m m2 i (decide (intV (hdV (g k)) = t ∧ intV (hdV (tlV (g k))) = w)) (IntKind.wrap .i64 ((k : Int) + 1))), smH m m2 T g h t w⟩))))
      (.done (.exit 0) ⟨someL [.slice (some ⟨0, 0, some 0⟩) m m, .slice (some ⟨1, 0, some 0⟩) m2 m2, .int .i64 i, .pointer (some ⟨2, 0, none⟩), .bool b], smH m m2 T g h t w⟩) := by kernel_rfl
theorem loop_sm : LOk K27.P (bodyOf Try.f3 0) (lspec 99 keepSM 3 gSML) := lspec_ok K27_ok (L := noL) (fun c' _ F h => by cases h) fun Φ vs H kk hm0 h => by
  unfold gSML at h
  split at h
  · rename_i l c l2 c2 i b k sh m g sh2 m2 hh T t w
    split at h
    · rename_i hsh
      rw [Bool.and_eq_true] at hsh
      obtain ⟨hs1, hs2⟩ := hsh
      have := shEq_eq hs1
      subst this
      have := shEq_eq hs2
      subst this
      obtain ⟨⟨rfl, rfl, rfl, rfl, rfl, hb⟩, h⟩ := h
      refine ⟨{j : Nat // j ≤ c}, fun n => smS c c2 i (fndN g t w b n.1) n.1, fun _ => smH c c2 T g hh t w, fun n => c - n.1, ⟨0, by omega⟩, rfl, rfl, ?_⟩
      rintro ⟨j, hj⟩
      show (ev K27 noL _ ⟨mkSlots 99 [0, 1, 2, 7, 9, 10] (smS c c2 i (fndN g t w b j) j), smH c c2 T g hh t w⟩ (pkG 99 keepSM 3)).sat _
      rw [run_smB]
      refine sat_tst (fun ht => ?_) (fun ht => ?_)
      · have hlt : j < c := by have := of_decide_eq_true ht; omega
        have ew := wrap_at hlt hb
        refine sat_tst (fun hf => ?_) (fun hf => sat_ask ⟨by omega, by omega⟩ (sat_ask hlt ?_))
        · refine ⟨⟨j + 1, by omega⟩, ?_, rfl, by show c - (j + 1) < c - j; omega⟩
          rw [ew, show true = fndN g t w b (j + 1) from by show true = bif fndN g t w b j then true else _; rw [hf]; rfl]
        · refine ⟨⟨j + 1, by omega⟩, ?_, rfl, by show c - (j + 1) < c - j; omega⟩
          rw [ew, show decide (intV (hdV (g j)) = t ∧ intV (hdV (tlV (g j))) = w) = fndN g t w b (j + 1) from by show _ = bif fndN g t w b j then true else _; rw [hf]; rfl]
      · have hge : j = c := by have := of_decide_eq_false ht; omega
        subst hge
        exact ⟨_, rfl, h⟩
    · exact h.elim
  · exact h.elim
theorem lSM_ok : ∀ F, lSM (key (bodyOf Try.f3 0)) = some F → LOk K27.P (bodyOf Try.f3 0) F := fun F h => by
  have hk : lSM (key (bodyOf Try.f3 0)) = some (lspec 99 keepSM 3 gSML) := by kernel_rfl
  rw [hk] at h
  cases h
  exact loop_sm
end Go.Proofs.Ytbmbnbhedalcnaa
