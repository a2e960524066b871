/- Whoever goes on: the loop of the law. -/
import Derived.Test.YtbmbnbhedalcnaaMj
namespace Go.Proofs.Ytbmbnbhedalcnaa
open Go.RowKit
/-- message j of a list to all -/
def mOk (G : Nat → List Value) (op t w : Int) (s : ByteArray) (j : Nat) : Bool :=
  decide (intV (hdV (G j)) = 3 ∧ intV (hdV (tlV (G j))) = op ∧ intV (hdV (tlV (tlV (G j)))) = (j : Int) ∧ intV (hdV (tlV (tlV (tlV (G j))))) = t ∧ intV (hdV (tlV (tlV (tlV (tlV (G j)))))) = w ∧ strV (hdV (tlV (tlV (tlV (tlV (tlV (G j))))))) = s)
def keepAG : AE → List Nat
  | .normal => [3, 4, 7, 8, 12]
  | .exit _ => [3, 8]
  | .ret => []
abbrev agS (n8 : Nat) (i : Int) : List Value := [.pointer (some ⟨1, 0, none⟩), .pointer (some ⟨2, 0, none⟩), .pointer (some ⟨10, 0, none⟩), .slice (some ⟨4, 0, some 0⟩) n8 n8, .int .i64 i]
abbrev agH (m n8 T1 T2 T3 T4 T5 : Nat) (g G : Nat → List Value) (need op k p : Int) (d : ByteArray) (t w : Int) (s : ByteArray) (hd mk mo n x y : Int) (z : ByteArray) (r : HR) : List AObj := [.recs wtK m g, .cells T1 [.slice (some ⟨0, 0, some 0⟩) m m, .int .i64 need], .cells T2 [.int .i64 op, .int .i64 k, .int .i64 p, .string d, .int .i64 t, .int .i64 w, .string s, .int .u64 hd], .cells T3 [.int .i64 mk, .int .i64 mo, .int .i64 n, .int .i64 x, .int .i64 y, .string z], .row T4 msK n8 G, .gone, .gone, .gone, .gone, .gone, .cells T5 [.int .i64 r.op, .int .i64 r.k, .int .i64 r.p, .string r.d, .int .i64 r.t, .int .i64 r.w, .string r.s, .int .u64 r.hd]]
def gAGL : List Value → List AObj → (AE → List Value → List AObj → Out) → Out
  | [.pointer (some ⟨1, 0, none⟩), .pointer (some ⟨2, 0, none⟩), .pointer (some ⟨10, 0, none⟩), .slice (some ⟨4, 0, some 0⟩) l c, .int .i64 i],
    [.recs sh m g, .cells T1 [.slice (some ⟨0, 0, some 0⟩) l3 c3, .int .i64 need], .cells T2 [.int .i64 op, .int .i64 k, .int .i64 p, .string d, .int .i64 t, .int .i64 w, .string s, .int .u64 hd], .cells T3 [.int .i64 mk, .int .i64 mo, .int .i64 n, .int .i64 x, .int .i64 y, .string z], .row T4 sh2 n8 G, .gone, .gone, .gone, .gone, .gone, .cells T5 [.int .i64 ro, .int .i64 rk, .int .i64 rp, .string rd, .int .i64 rt, .int .i64 rw, .string rs, .int .u64 rh]], kk => (match shEq sh wtK && shEq sh2 msK with
    | true => .ask (l = n8 ∧ c = n8 ∧ l3 = m ∧ c3 = m ∧ i = 0 ∧ n8 ≤ 140737488355328 ∧ ∀ j, j < n8 → mOk G op rt rw rs j = true)
        (kk (.exit 0) [.pointer (some ⟨1, 0, none⟩), .slice (some ⟨4, 0, some 0⟩) n8 n8] (agH m n8 T1 T2 T3 T4 T5 g G need op k p d t w s hd mk mo n x y z ⟨ro, rk, rp, rd, rt, rw, rs, rh, 0, nil8, 0⟩))
    | false => .bad)
  | _, _, _ => .bad
def lAG : Nat → Option LCon := oneL 20 (lspec 192 keepAG 11 gAGL)
theorem run_agB (m n8 i T1 T2 T3 T4 T5 : Nat) (g G : Nat → List Value) (need op k p : Int) (d : ByteArray) (t w : Int) (s : ByteArray) (hd mk mo n x y : Int) (z : ByteArray) (r : HR) : ev K25 noL (bodyOf Try.f7 0) ⟨mkSlots 192 [3, 4, 7, 8, 12] (agS n8 i), agH m n8 T1 T2 T3 T4 T5 g G need op k p d t w s hd mk mo n x y z r⟩ (pkG 192 keepAG 11) =
    tst (decide ((i : Int) < (n8 : Int))) (.ask ((0 : Int) ≤ (i : Int) ∧ (i : Int) < (n8 : Int)) (.ask (i < n8) (tst (!mOk G op r.t r.w r.s i)
      (.done .ret ⟨[], agH m n8 T1 T2 T3 T4 T5 g G need op k p d t w s hd mk mo n x y z r⟩)
      (.done .normal ⟨someL (agS n8 (IntKind.wrap .i64 ((i : Int) + 1))), agH m n8 T1 T2 T3 T4 T5 g G need op k p d t w s hd mk mo n x y z r⟩))))
      (.done (.exit 0) ⟨someL [.pointer (some ⟨1, 0, none⟩), .slice (some ⟨4, 0, some 0⟩) n8 n8], agH m n8 T1 T2 T3 T4 T5 g G need op k p d t w s hd mk mo n x y z r⟩) := by kernel_rfl
theorem loop_ag : LOk K25.P (bodyOf Try.f7 0) (lspec 192 keepAG 11 gAGL) := lspec_ok K25_ok (L := noL) (fun c' _ F h => by cases h) fun Φ vs H kk hm0 h => by
  unfold gAGL at h
  split at h
  · rename_i l c i sh m g T1 l3 c3 need T2 op k p d t w s hd T3 mk mo n x y z T4 sh2 n8 G T5 ro rk rp rd rt rw' rs rh
    split at h
    · rename_i hsh
      rw [Bool.and_eq_true] at hsh
      obtain ⟨hs1, hs2⟩ := hsh
      have := shEq_eq hs1
      subst this
      have := shEq_eq hs2
      subst this
      obtain ⟨⟨rfl, rfl, rfl, rfl, rfl, hb, hall⟩, h⟩ := h
      refine ⟨{j : Nat // j ≤ c}, fun i => agS c i.1, fun _ => agH c3 c T1 T2 T3 T4 T5 g G need op k p d t w s hd mk mo n x y z ⟨ro, rk, rp, rd, rt, rw', rs, rh, 0, nil8, 0⟩, fun i => c - i.1, ⟨0, by omega⟩, rfl, rfl, ?_⟩
      rintro ⟨j, hj⟩
      show (ev K25 noL _ ⟨mkSlots 192 [3, 4, 7, 8, 12] (agS c j), agH c3 c T1 T2 T3 T4 T5 g G need op k p d t w s hd mk mo n x y z ⟨ro, rk, rp, rd, rt, rw', rs, rh, 0, nil8, 0⟩⟩ (pkG 192 keepAG 11)).sat _
      rw [run_agB]
      refine sat_tst (fun ht => ?_) (fun ht => ?_)
      · have hlt : j < c := by have := of_decide_eq_true ht; omega
        refine sat_ask ⟨by omega, by omega⟩ (sat_ask hlt (sat_tst (fun hc => ?_) (fun hc => ?_)))
        · have := hall j hlt
          have hc : (!mOk G op rt rw' rs j) = true := hc
          rw [this] at hc
          cases hc
        · refine ⟨⟨j + 1, by omega⟩, ?_, rfl, by show c - (j + 1) < c - j; omega⟩
          rw [wrap_at hlt (by omega)]
      · have hge : j = c := by have := of_decide_eq_false ht; omega
        subst hge
        exact ⟨_, rfl, h⟩
    · exact h.elim
  · exact h.elim
theorem lAG_ok : ∀ F, lAG (key (bodyOf Try.f7 0)) = some F → LOk K25.P (bodyOf Try.f7 0) F := fun F h => by
  have hk : lAG (key (bodyOf Try.f7 0)) = some (lspec 192 keepAG 11 gAGL) := by kernel_rfl
  rw [hk] at h
  cases h
  exact loop_ag
end Go.Proofs.Ytbmbnbhedalcnaa
