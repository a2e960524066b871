/- Votes to all nodes, by symbolic runs. -/
import Derived.Test.YtbmbnbhedalcnabXl
namespace Go.Proofs.Ytbmbnbhedalcnab
open Go.RowKit
theorem run_allB (m k T1 : Nat) (need a p t w hd no kd : Int) (o v s d : ByteArray) (g G : Nat → List Value) : ev K16 noL (bodyOf Try.f37 0) ⟨mkSlots 33 [1, 2, 3, 7, 14, 15, 16] [.int .i64 kd, .string d, .pointer (some ⟨1, 0, none⟩), .slice (some ⟨2, 0, some 0⟩) m m, .slice (some ⟨2, 0, some 0⟩) m m, .int .i64 m, .int .i64 k], [.recs wtK m g, .cells T1 (bdC a p o v t w s hd m need no), .row 29 vtK m G]⟩ (pkG 33 keepAll 3) =
    tst (decide ((↑k : Int) < (↑m : Int))) (Out.ask (m ≤ m ∧ m ≤ (140737488355328 : Nat)) (Out.ask ((0 : Int) ≤ (↑k : Int) ∧ (↑k : Int) < (↑m : Int)) (Out.ask (k < m) (Out.done .normal ⟨someL [.int .i64 kd, .string d, .pointer (some ⟨1, 0, none⟩), .slice (some ⟨2, 0, some 0⟩) m m, .slice (some ⟨2, 0, some 0⟩) m m, .int .i64 m, .int .i64 (IntKind.wrap IntKind.i64 ((↑k : Int) + (1 : Int)))], [.recs wtK m g, .cells T1 (bdC a p o v t w s hd m need no), .row 29 vtK m (updG G k (toC kd a no d k))]⟩))))
      (Out.done (.exit 0) ⟨someL [.slice (some ⟨2, 0, some 0⟩) m m], [.recs wtK m g, .cells T1 (bdC a p o v t w s hd m need no), .row 29 vtK m G]⟩) := by kernel_rfl
theorem loop_all : LOk K16.P (bodyOf Try.f37 0) (lspec 33 keepAll 3 gAllL) := lspec_ok K16_ok (L := noL) (fun c' _ F h => by cases h) fun Φ vs H k hm0 h => by
  unfold gAllL at h
  split at h
  · rename_i kd d l1 c1 l2 c2 n i sh m0 g T1 a p o v t w s hd l3 m need no e sh2 m2 G
    split at h
    · rename_i hsh
      rw [Bool.and_eq_true, Bool.and_eq_true, Nat.beq_eq] at hsh
      obtain ⟨⟨hs1, hs2⟩, rfl⟩ := hsh
      have := shEq_eq hs1
      subst this
      have := shEq_eq hs2
      subst this
      obtain ⟨⟨rfl, rfl, rfl, rfl, rfl, rfl, rfl, rfl, rfl, hb, rfl⟩, h⟩ := h
      refine ⟨{j : Nat // j ≤ m2}, fun i => [.int .i64 kd, .string d, .pointer (some ⟨1, 0, none⟩), .slice (some ⟨2, 0, some 0⟩) m2 m2, .slice (some ⟨2, 0, some 0⟩) m2 m2, .int .i64 m2, .int .i64 i.1], fun i => [.recs wtK m2 g, .cells T1 (bdC a p o v t w s hd m2 need no), .row 29 vtK m2 (rG (toC kd a no d) vtZ i.1)], fun i => m2 - i.1, ⟨0, by omega⟩, rfl, rfl, ?_⟩
      rintro ⟨j, hj⟩
      show (ev K16 noL _ ⟨mkSlots 33 [1, 2, 3, 7, 14, 15, 16] [.int .i64 kd, .string d, .pointer (some ⟨1, 0, none⟩), .slice (some ⟨2, 0, some 0⟩) m2 m2, .slice (some ⟨2, 0, some 0⟩) m2 m2, .int .i64 m2, .int .i64 j], [.recs wtK m2 g, .cells T1 (bdC a p o v t w s hd m2 need no), .row 29 vtK m2 (rG (toC kd a no d) vtZ j)]⟩ (pkG 33 keepAll 3)).sat _
      rw [run_allB]
      refine sat_tst (fun ht => ?_) (fun ht => ?_)
      · have hlt : j < m2 := by have := of_decide_eq_true ht; omega
        refine sat_ask ⟨Nat.le_refl _, by omega⟩ (sat_ask ⟨by omega, by omega⟩ (sat_ask hlt ?_))
        refine ⟨⟨j + 1, by omega⟩, ?_, rfl, by show m2 - (j + 1) < m2 - j; omega⟩
        rw [wrap_at hlt (by omega)]
      · have hge : j = m2 := by have := of_decide_eq_false ht; omega
        subst hge
        exact ⟨_, rfl, h⟩
    · exact h.elim
  · exact h.elim
theorem lAll_ok : ∀ F, lAll (key (bodyOf Try.f37 0)) = some F → LOk K16.P (bodyOf Try.f37 0) F := fun F h => by
  have hk : lAll (key (bodyOf Try.f37 0)) = some (lspec 33 keepAll 3 gAllL) := by kernel_rfl
  rw [hk] at h
  cases h
  exact loop_all
abbrev bdK : CK := .agg [.val, .val, .val, .val, .val, .val, .val, .val, .rows wtK, .val, .val]
def aAll (l : List CA) : Prop :=
  match nthL l 8 with
  | some (.rows _ m _) => m ≤ 12
  | _ => False
def gAll : List CA → Option (List RC)
  | [.val (.int .i64 a), .val (.int .i64 _), .val (.string _), .val (.string _), .val (.int .i64 _), .val (.int .i64 _), .val (.string _), .val (.int .u64 _), .rows _ m _, .val (.int .i64 _), .val (.int .i64 no), .val (.int .i64 kd), .val (.string d)] => some [.rows 29 vtK m (toC kd a no d)]
  | _ => none
theorem run_all (m : Nat) (need a p t w hd no kd : Int) (o v s d : ByteArray) (g : Nat → List Value) : evR K16 lAll Try.f37 [.agg ⟨bdC a p o v t w s hd m need no⟩, .int .i64 kd, .string d] [.recs wtK m g] [.one .val] [.rows 29 vtK m (toC kd a no d)] =
    Out.ask ((0 : Int) ≤ (m : Int) ∧ (m : Int) ≤ (m : Int) ∧ ((56 : Nat) : Int) * (m : Int) ≤ 281474976710656 ∧ (m : Int) ≤ 9223372036854775807) (Out.ask (m = m ∧ m = m ∧ m = m ∧ m = m ∧ m = m ∧ m = m ∧ m = m ∧ (m : Int) = (m : Int) ∧ (0 : Int) = 0 ∧ m ≤ 12 ∧ (fun _ => vtZ) = fun (_ : Nat) => vtZ)
      (Out.ask (m = m ∧ m ≤ m ∧ ∀ j, j < m → norm vtK (rG (toC kd a no d) vtZ m j) = norm vtK (toC kd a no d j)) (Out.done .ret ⟨[], []⟩))) := by kernel_rfl
theorem f_all : FOk K16.P 37 (listF [bdK, vK, vK] [.one .val] aAll gAll) := list_f K16_ok Try.func37 rfl rfl (one_loop (by kernel_rfl) lAll_ok) fun cas rs hb hk ha h => by
  unfold gAll at h
  split at h
  · rename_i a p o v t w s hd sh0 m g need no kd d
    have := kind_rows (i := 8) hk rfl rfl
    subst this
    have ha : m ≤ 12 := ha
    cases h
    show (evR K16 lAll _ [.agg ⟨bdC a p o v t w s hd m need no⟩, .int .i64 kd, .string d] [.recs wtK m g] [.one .val] _).sat _
    rw [run_all]
    exact sat_ask ⟨by omega, by omega, by omega, by omega⟩ (sat_ask ⟨rfl, rfl, rfl, rfl, rfl, rfl, rfl, rfl, rfl, ha, rfl⟩ (sat_ask ⟨rfl, Nat.le_refl _, fun j hj => by rw [rG_at _ _ hj]⟩ sat_end))
  · cases h
noncomputable def K17 : Kn := K16.addF 37 (listF [bdK, vK, vK] [.one .val] aAll gAll)
theorem K17_ok : K17.Ok := K16_ok.addF f_all
end Go.Proofs.Ytbmbnbhedalcnab
