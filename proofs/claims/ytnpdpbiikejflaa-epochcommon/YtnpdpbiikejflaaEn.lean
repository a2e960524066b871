/- Who is common to all: the loop of the law. -/
import Derived.Test.YtnpdpbiikejflaaEm
namespace Go.Proofs.Ytnpdpbiikejflaa
open Go.RowKit
theorem run_ecB (m k : Nat) (g : Nat → List Value) (n x : Int) (b : Bool) : ev K18 noL (bodyOf Try.f7 0) ⟨mkSlots 87 [0, 2, 7, 11, 12] [.slice (some ⟨0, 0, some 0⟩) m m, .int .i64 n, .int .u64 x, .bool b, .int .i64 k], [.recs ekK m g]⟩ (pkG 87 keepEC 1) =
    tst (decide ((k : Int) < (m : Int))) (tst b (.ask ((0 : Int) ≤ (k : Int) ∧ (k : Int) < (m : Int)) (.ask (k < m) (.ask (aIn [.val (.int .u64 (me (g k))), .val (.int .i64 (and63 n))])
      (.done .normal ⟨[some (.slice (some ⟨0, 0, some 0⟩) m m), some (.int .i64 n), some (.int .u64 x), some (.bool ((me (g k)).toNat.testBit (and63 n).toNat)), some (.int .i64 (IntKind.wrap .i64 ((k : Int) + 1)))], [.recs ekK m g]⟩))))
      (.done .normal ⟨[some (.slice (some ⟨0, 0, some 0⟩) m m), some (.int .i64 n), some (.int .u64 x), some (.bool false), some (.int .i64 (IntKind.wrap .i64 ((k : Int) + 1)))], [.recs ekK m g]⟩))
      (.done (.exit 0) ⟨[some (.int .i64 n), some (.int .u64 x), some (.bool b)], [.recs ekK m g]⟩) := by kernel_rfl
theorem loop_ec : LOk K18.P (bodyOf Try.f7 0) (lspec 87 keepEC 1 gECL) := lspec_ok K18_ok (L := noL) (fun c' _ F h => by cases h) fun Φ vs H k hm0 h => by
  unfold gECL at h
  split at h
  · rename_i l m n x b i sh m0 g
    split at h
    · rename_i hsh
      have := shEq_eq hsh
      subst this
      obtain ⟨⟨rfl, rfl, rfl, rfl, hb, hU⟩, h⟩ := h
      refine ⟨{j : Nat // j ≤ m}, fun i => [.slice (some ⟨0, 0, some 0⟩) m m, .int .i64 n, .int .u64 x, .bool (allIn g (and63 n).toNat i.1), .int .i64 i.1], fun _ => [.recs ekK m g], fun i => m - i.1, ⟨0, by omega⟩, rfl, rfl, ?_⟩
      rintro ⟨j, hj⟩
      show (ev K18 noL _ ⟨mkSlots 87 [0, 2, 7, 11, 12] [.slice (some ⟨0, 0, some 0⟩) m m, .int .i64 n, .int .u64 x, .bool (allIn g (and63 n).toNat j), .int .i64 j], [.recs ekK m g]⟩ (pkG 87 keepEC 1)).sat _
      rw [run_ecB]
      refine sat_tst (fun ht => ?_) (fun ht => ?_)
      · have hlt : j < m := by have := of_decide_eq_true ht; omega
        have fin : ∀ (p : Bool) (r : Int), p = allIn g (and63 n).toNat (j + 1) → r = ((j + 1 : Nat) : Int) → ∃ i' : {j : Nat // j ≤ m}, [some (Value.slice (some ⟨0, 0, some 0⟩) m m), some (Value.int .i64 n), some (Value.int .u64 x), some (Value.bool p), some (Value.int .i64 r)] = someL [.slice (some ⟨0, 0, some 0⟩) m m, .int .i64 n, .int .u64 x, .bool (allIn g (and63 n).toNat i'.1), .int .i64 i'.1] ∧ [AObj.recs ekK m g] = [.recs ekK m g] ∧ m - i'.1 < m - j := fun p r hp hr => by
          subst hp
          subst hr
          exact ⟨⟨j + 1, by omega⟩, rfl, rfl, by show m - (j + 1) < m - j; omega⟩
        have w := wrap_at hlt hb
        refine sat_tst (fun h1 => sat_ask ⟨by omega, by omega⟩ (sat_ask hlt (sat_ask ⟨hU j hlt, (and63_ok n).1⟩ ?_))) fun h1 => ?_
        · exact fin _ _ (by show _ = (allIn g (and63 n).toNat j && (me (g j)).toNat.testBit (and63 n).toNat); rw [h1]; rfl) w
        · exact fin _ _ (by show _ = (allIn g (and63 n).toNat j && (me (g j)).toNat.testBit (and63 n).toNat); rw [h1]; rfl) w
      · have hge : j = m := by have := of_decide_eq_false ht; omega
        subst hge
        exact ⟨_, rfl, h⟩
    · exact h.elim
  · exact h.elim
theorem lEC_ok : ∀ F, lEC (key (bodyOf Try.f7 0)) = some F → LOk K18.P (bodyOf Try.f7 0) F := fun F h => by
  have hk : lEC (key (bodyOf Try.f7 0)) = some (lspec 87 keepEC 1 gECL) := by kernel_rfl
  rw [hk] at h
  cases h
  exact loop_ec
end Go.Proofs.Ytnpdpbiikejflaa
