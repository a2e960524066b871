/- A vote in answer; what Serve answers: what is to be shown. -/
import Derived.Test.YtbmbnbhedalcnabXh
namespace Go.Proofs.Ytbmbnbhedalcnab
open Go.RowKit
/-- a vote's cells -/
abbrev vtK : List LK := [.kInt .i64, .kInt .i64, .kInt .i64, .kInt .i64, .kInt .i64, .kStr]
/-- a list that is written out -/
def litR (L : List (List Value)) : Nat → List Value := fun j => (nthL L j).getD []
def vtC (k b n t w : Int) (s : ByteArray) : List Value := [.int .i64 k, .int .i64 b, .int .i64 n, .int .i64 t, .int .i64 w, .string s]
def gAnswer : List CA → Option (List RC)
  | [.val (.agg ⟨[.int .i64 _, .int .i64 b, .int .i64 n, .int .i64 _, .int .i64 _, .string _]⟩), .val (.int .i64 kd), .val (.agg ⟨[.int .i64 a, .int .i64 c, .string z]⟩)] => some [.rows 29 vtK 1 (litR [vtC kd b n a c z])]
  | _ => none
theorem run_answer (k b n t w kd a c : Int) (s z : ByteArray) : evR K13 noL Try.f23 [.agg ⟨[.int .i64 k, .int .i64 b, .int .i64 n, .int .i64 t, .int .i64 w, .string s]⟩, .int .i64 kd, .agg ⟨[.int .i64 a, .int .i64 c, .string z]⟩] [] [.one .val] [.rows 29 vtK 1 (litR [vtC kd b n a c z])] =
    Out.ask ((1 : Nat) = 1 ∧ (1 : Nat) ≤ 1 ∧ ∀ j, j < 1 → norm vtK (litR [vtC kd b n a c z] j) = norm vtK (litR [vtC kd b n a c z] j)) (Out.done .ret ⟨[], []⟩) := by kernel_rfl
theorem f_answer : FOk K13.P 23 (listG [vK, vK, vK] [.one .val] gAnswer) := list_g K13_ok Try.func23 rfl rfl (no_loops rfl) fun cas rs _hb _hk h => by
  unfold gAnswer at h
  split at h
  · rename_i k b n t w s kd a c z
    cases h
    show (evR K13 noL _ [.agg ⟨[.int .i64 k, .int .i64 b, .int .i64 n, .int .i64 t, .int .i64 w, .string s]⟩, .int .i64 kd, .agg ⟨[.int .i64 a, .int .i64 c, .string z]⟩] [] [.one .val] _).sat _
    rw [run_answer]
    exact ⟨⟨rfl, Nat.le_refl _, fun _ _ => rfl⟩, trivial⟩
  · cases h
noncomputable def K14 : Kn := K13.addF 23 (listG [vK, vK, vK] [.one .val] gAnswer)
theorem K14_ok : K14.Ok := K13_ok.addF f_answer
end Go.Proofs.Ytbmbnbhedalcnab
