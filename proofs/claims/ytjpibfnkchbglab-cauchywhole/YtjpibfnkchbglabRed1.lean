/- What matrix.lead and matrix.addTimes do to a row that lies in a block of its own. -/
import Derived.Test.YtjpibfnkchbglabCau
namespace Go.Proofs.Ytjpibfnkchbglab
open Go.ChangeShapes Go.WideShapes Go.ChangeAt Go.RowKit Go.Shelf
/-- block b is now o; of old nothing else has turned -/
structure Chg (b : Nat) (o : Obj) (W W' : World) : Prop where
  os : W'.os = W.os
  tape : W'.tape = W.tape
  output : W'.output = W.output
  size : W.heap.size ≤ W'.heap.size
  block : ∀ k, k < W.heap.size → k ≠ b → W'.heap[k]? = W.heap[k]?
  at_ : W'.heap[b]? = some o
theorem OnlyAt.chg {b : Nat} {o : Obj} {W W' : World} (h : OnlyAt b o W W') : Chg b o W W' := ⟨h.os, h.tape, h.output, by rw [h.size]; exact Nat.le_refl _, fun k _ hk => h.block k hk, h.at_⟩
theorem Below.chg {b : Nat} {o : Obj} {W W' W'' : World} (h : Below W.heap.size W W') (k : OnlyAt b o W' W'') : Chg b o W W'' :=
  ⟨k.os.trans h.os, k.tape.trans h.tape, k.output.trans h.output, by rw [k.size]; exact h.size, fun i hi hne => (k.block i hne).trans (h.block i hi), k.at_⟩
theorem Chg.drew {b : Nat} {o : Obj} {W W' : World} (h : Chg b o W W') : Chg b o W W'.drew := ⟨h.os, h.tape, h.output, h.size, h.block, h.at_⟩
theorem Chg.drewN {b : Nat} {o : Obj} {W W' : World} (h : Chg b o W W') (n : Nat) : Chg b o W (W'.drewN n) := ⟨h.os, h.tape, h.output, h.size, h.block, h.at_⟩
theorem row_read {c : Nat} {r : Nat → Nat} {b k : Nat} {w : World} (h : w.heap[b]? = some (.cells (cellsB (rl c r)).toArray 5 (0, 0))) (hk : k < c) : w.cell? ⟨b, k, none⟩ = some (.int .u8 (r k : Nat)) := by
  have := (OnlyAt.refl h).read k
  rw [List.getElem?_toArray, cellsB_get (by rw [rl_len]; exact hk), rl_get _ hk] at this
  exact this
/-- the first k places turned into g's -/
def mixN (r g : Nat → Nat) (k : Nat) : Nat → Nat := fun j => if j < k then g j else r j
theorem mix_put {c k : Nat} {r g : Nat → Nat} (hk : k < c) : rl c (put (mixN r g k) k (g k)) = rl c (mixN r g (k + 1)) := by
  apply rl_congr
  intro j _
  unfold put mixN
  by_cases e : j = k
  · subst e; rw [if_pos rfl, if_pos (by omega)]
  · rw [if_neg e]
    by_cases d : j < k
    · rw [if_pos d, if_pos (by omega)]
    · rw [if_neg d, if_neg (by omega)]
theorem mix_all {c : Nat} {r g : Nat → Nat} : rl c (mixN r g c) = rl c g := rl_congr fun j hj => by unfold mixN; rw [if_pos hj]
theorem mix_none {c : Nat} {r g : Nat → Nat} : rl c (mixN r g 0) = rl c r := rl_congr fun j hj => by unfold mixN; rw [if_neg (by omega)]
set_option maxRecDepth 100000 in
set_option maxHeartbeats 2000000 in
theorem lead_any (b c k : Nat) (r : Nat → Nat) (w : World) (hc : c ≤ 64) (hk : k < c) (hr : ∀ j, j < c → r j < 256) (h0 : r k ≠ 0) (hw : w.heap[b]? = some (.cells (cellsB (rl c r)).toArray 5 (0, 0))) :
    Calls Try.prog 67 #[.slice (some ⟨b, 0, none⟩) c c, .int .i64 (k : Nat)] w fun e w' => (∃ v, e = .returned v) ∧ Chg b (.cells (cellsB (rl c (fun j => Gf.gm (r j) (Gf.inv (r k))))).toArray 5 (0, 0)) w w' := by
  have HW := hid_of hw
  have HR := hid_of hr
  have c1 := row_read hw hk
  have hk0 := hr k hk
  obtain ⟨x, hx⟩ : ∃ x, r k = x := ⟨_, rfl⟩
  rw [hx] at c1 hk0 h0 ⊢
  have hi := Gf.inv_lt x
  obtain ⟨v, hv⟩ : ∃ v, Gf.inv x = v := ⟨_, rfl⟩
  rw [hv] at hi ⊢
  have HV := hid_of hv
  clear hw hr hx hv
  go_enter Try.func67, Try.ntmps67
  go_wp2_with fail
  refine (inverse_any _ _ (by omega) (by omega)).mono ?_
  rintro e w1 ⟨rfl, hB⟩
  rw [Int.toNat_natCast, HV.out]
  have HW1 := hid_of ((hB.block b (heap_lt HW.out)).trans HW.out)
  have BB := hid_of hB
  clear hB c1
  go_wp2_with fail
  go_loopw [18] (fun i w' => ∃ m : Nat, m ≤ c ∧ i = .int .i64 m ∧ Hid (OnlyAt b (.cells (cellsB (rl c (mixN r (fun j => Gf.gm (r j) v) m))).toArray 5 (0, 0)) w1 w')) (fun i _ => c - (intOf i).toNat)
  case atStart => exact ⟨0, by omega, rfl, by rw [mix_none]; exact OnlyAt.refl HW1.out⟩
  case round =>
    obtain ⟨m, hm, rfl, H⟩ := hrel
    by_cases hlt : m < c
    · have d1 := row_read H.out.at_ hlt
      have e1 : mixN r (fun j => Gf.gm (r j) v) m m = r m := by unfold mixN; rw [if_neg (by omega)]
      rw [e1] at d1
      have d2 := H.out.frozen m
      have hrm := HR.out m hlt
      have hp := mix_put (r := r) (g := fun j => Gf.gm (r j) v) hlt
      obtain ⟨y, hy⟩ : ∃ y, r m = y := ⟨_, rfl⟩
      have hp2 : rl c (put (mixN r (fun j => Gf.gm (r j) v) m) m (Gf.gm y v)) = rl c (mixN r (fun j => Gf.gm (r j) v) (m + 1)) := by rw [← hy]; exact hp
      rw [hy] at d1 hrm
      have HP := hid_of hp2
      clear e1 hy hp hp2
      go_wp2_with fail
      refine (mul_any _ _ _ (by omega) (by omega) (by omega) (by omega)).mono ?_
      rintro e w2 ⟨rfl, hw2⟩
      subst hw2
      rw [Int.toNat_natCast, Int.toNat_natCast]
      go_wp2_with fail
      go_roundw
      case rel =>
        refine ⟨m + 1, by omega, by go_num, ?_⟩
        rw [← HP.out, ← row_put]
        exact H.out.set _
      case measure => simp [intOf]; omega
    · have hme : m = c := by omega
      subst hme
      rw [mix_all] at H
      go_wp2_with fail
      go_end0
      exact ⟨⟨_, rfl⟩, Below.chg BB.out H.out⟩
set_option maxRecDepth 100000 in
set_option maxHeartbeats 2000000 in
theorem addRow_any (b b2 c f : Nat) (r s : Nat → Nat) (w : World) (hc : c ≤ 64) (hf : f < 256) (hne : b2 ≠ b) (hr : ∀ j, j < c → r j < 256) (hs : ∀ j, j < c → s j < 256) (hw : w.heap[b]? = some (.cells (cellsB (rl c r)).toArray 5 (0, 0))) (hw2 : w.heap[b2]? = some (.cells (cellsB (rl c s)).toArray 5 (0, 0))) :
    Calls Try.prog 68 #[.slice (some ⟨b, 0, none⟩) c c, .slice (some ⟨b2, 0, none⟩) c c, .int .u8 (f : Nat)] w fun e w' => (∃ v, e = .returned v) ∧ OnlyAt b (.cells (cellsB (rl c (fun j => r j ^^^ Gf.gm (s j) f))).toArray 5 (0, 0)) w w' := by
  have HW := hid_of hw
  have HW2 := hid_of hw2
  have HR := hid_of hr
  have HS := hid_of hs
  clear hw hw2 hr hs
  go_enter Try.func68, Try.ntmps68
  go_wp2_with fail
  go_loopw [10] (fun i w' => ∃ m : Nat, m ≤ c ∧ i = .int .i64 m ∧ Hid (OnlyAt b (.cells (cellsB (rl c (mixN r (fun j => r j ^^^ Gf.gm (s j) f) m))).toArray 5 (0, 0)) w w')) (fun i _ => c - (intOf i).toNat)
  case atStart => exact ⟨0, by omega, rfl, by rw [mix_none]; exact OnlyAt.refl HW.out⟩
  case round =>
    obtain ⟨m, hm, rfl, H⟩ := hrel
    by_cases hlt : m < c
    · have d0 := row_read ((H.out.block b2 hne).trans HW2.out) hlt
      have d1 := row_read H.out.at_ hlt
      have e1 : mixN r (fun j => r j ^^^ Gf.gm (s j) f) m m = r m := by unfold mixN; rw [if_neg (by omega)]
      rw [e1] at d1
      have d2 := H.out.frozen m
      have hrm := HR.out m hlt
      have hsm := HS.out m hlt
      have hp := mix_put (r := r) (g := fun j => r j ^^^ Gf.gm (s j) f) hlt
      obtain ⟨y, hy⟩ : ∃ y, r m = y := ⟨_, rfl⟩
      obtain ⟨z, hz⟩ : ∃ y, s m = y := ⟨_, rfl⟩
      have hp2 : rl c (put (mixN r (fun j => r j ^^^ Gf.gm (s j) f) m) m (y ^^^ Gf.gm z f)) = rl c (mixN r (fun j => r j ^^^ Gf.gm (s j) f) (m + 1)) := by rw [← hy, ← hz]; exact hp
      rw [hy] at d1 hrm
      rw [hz] at d0 hsm
      have h6 : Gf.gm z f < 256 := Gf.gm_lt hsm
      have h7 := u8_xor_nat _ _ hrm h6
      have HP := hid_of hp2
      clear e1 hy hz hp hp2
      go_wp2_with fail
      go_region_with (go_at_call 42; refine (mul_any _ _ _ (by omega) (by omega) (by omega) (by omega)).mono ?_; rintro e w1 ⟨rfl, rfl⟩; rw [Int.toNat_natCast, Int.toNat_natCast])
      all_goals go_wp2
      all_goals go_roundw
      all_goals first
        | (case rel => exact ⟨m + 1, by omega, by go_num, by rw [← HP.out, ← row_put]; repeat (first | exact H.out.set _ | apply OnlyAt.drew)⟩)
        | (simp [intOf]; omega)
    · have hme : m = c := by omega
      subst hme
      rw [mix_all] at H
      go_wp2_with fail
      go_end0
      exact ⟨⟨_, rfl⟩, H.out⟩
end Go.Proofs.Ytjpibfnkchbglab
