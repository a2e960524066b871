/- What poly.addTimes does to the list that it adds to, for every list of bytes and every factor. -/
import Derived.Test.YtlccdceeppfleabCheck
import Derived.Deep.RegionWith
namespace Go.Proofs.Ytlccdceeppfleab
open Go.ChangeShapes Go.WideShapes Go.ChangeAt Go.RowKit Go.Shelf
/-- Nothing has turned but block g, which is now o; draws may have been made. -/
structure OnlyAt (g : Nat) (o : Obj) (w w' : World) : Prop where
  os : w'.os = w.os
  tape : w'.tape = w.tape
  output : w'.output = w.output
  size : w'.heap.size = w.heap.size
  block : ∀ k, k ≠ g → w'.heap[k]? = w.heap[k]?
  at_ : w'.heap[g]? = some o
theorem OnlyAt.refl {g : Nat} {o : Obj} {w : World} (h : w.heap[g]? = some o) : OnlyAt g o w w := ⟨rfl, rfl, rfl, rfl, fun _ _ => rfl, h⟩
theorem OnlyAt.trans {g : Nat} {o o' : Obj} {a b c : World} (h : OnlyAt g o a b) (k : OnlyAt g o' b c) : OnlyAt g o' a c :=
  ⟨k.os.trans h.os, k.tape.trans h.tape, k.output.trans h.output, k.size.trans h.size, fun i hi => (k.block i hi).trans (h.block i hi), k.at_⟩
theorem OnlyAt.drew {g : Nat} {o : Obj} {a b : World} (h : OnlyAt g o a b) : OnlyAt g o a b.drew := ⟨h.os, h.tape, h.output, h.size, h.block, h.at_⟩
theorem OnlyAt.below {g B : Nat} {o : Obj} {w w' : World} (h : OnlyAt g o w w') (hB : B ≤ g) : Below B w w' :=
  ⟨h.os, h.tape, h.output, by rw [h.size]; exact Nat.le_refl _, fun k hk => h.block k (by omega)⟩
theorem OnlyAt.cell {g : Nat} {o : Obj} {w w' : World} (h : OnlyAt g o w w') {p : Addr} (hp : p.block ≠ g) : w'.cell? p = w.cell? p := World.cell?_of_block (w := w) (h.block p.block hp)
theorem OnlyAt.set {g i : Nat} {c : Array Value} {t : TypeId} {w w' : World} (h : OnlyAt g (.cells c t (0, 0)) w w') (v : Value) : OnlyAt g (.cells (c.setIfInBounds i v) t (0, 0)) w (w'.setCell ⟨g, i, none⟩ v) := by
  refine ⟨h.os, h.tape, h.output, ?_, fun k hk => ?_, ?_⟩
  · simp only [World.setCell, Array.size_modify]; exact h.size
  · rw [Below.heap_setCell _ _ _ _ hk]; exact h.block k hk
  · simp only [World.setCell, Array.getElem?_modify, ↓reduceIte, h.at_, Option.map_some]
    simp
theorem OnlyAt.read {g : Nat} {c : Array Value} {t : TypeId} {w w' : World} (h : OnlyAt g (.cells c t (0, 0)) w w') (i : Nat) : w'.cell? ⟨g, i, none⟩ = c[i]? := by
  simp [World.cell?, h.at_]
theorem OnlyAt.frozen {g : Nat} {c : Array Value} {t : TypeId} {w w' : World} (h : OnlyAt g (.cells c t (0, 0)) w w') (i : Nat) : w'.frozen? ⟨g, i, none⟩ = false := by
  simp [World.frozen?, h.at_]
/-- the first k cells from o on, turned -/
def upd (c : Array Value) (o : Nat) (f : Nat → Nat) : Nat → Array Value
  | 0 => c
  | k + 1 => (upd c o f k).setIfInBounds (o + k) (.int .u8 (f k : Nat))
theorem upd_get (c : Array Value) (o : Nat) (f : Nat → Nat) (i : Nat) : ∀ k, (upd c o f k)[i]? = if o ≤ i ∧ i < o + k ∧ i < c.size then some (.int .u8 (f (i - o) : Nat)) else c[i]?
  | 0 => by rw [if_neg (by omega)]; rfl
  | k + 1 => by
    have hs : (upd c o f k).size = c.size := by
      clear i
      induction k with
      | zero => rfl
      | succ k ih => unfold upd; rw [Array.size_setIfInBounds, ih]
    unfold upd
    rw [Array.getElem?_setIfInBounds, hs, upd_get c o f i k]
    by_cases e : o + k = i
    · subst e
      by_cases h : o + k < c.size
      · rw [if_pos rfl, if_pos h, if_pos ⟨by omega, by omega, h⟩, show o + k - o = k by omega]
      · rw [if_pos rfl, if_neg h, if_neg (by omega), Array.getElem?_eq_none (by omega)]
    · rw [if_neg e]
      by_cases h : o ≤ i ∧ i < o + k ∧ i < c.size
      · rw [if_pos h, if_pos ⟨h.1, by omega, h.2.2⟩]
      · rw [if_neg h, if_neg (by omega)]
set_option maxRecDepth 100000 in
set_option maxHeartbeats 2000000 in
theorem addTimes_raw (g o ls cs : Nat) (cur : Array Value) (S : Nat → Nat) (b off cp : Nat) (P : List Nat) (f : Nat) (w : World) (hf : f ≤ 255) (hP : ∀ x ∈ P, x < 256) (hPl : P.length ≤ 140737488351232) (hls : P.length ≤ ls) (hls2 : ls ≤ 140737488351232)
    (hw : w.heap[g]? = some (.cells cur 5 (0, 0))) (hS : ∀ j, j < P.length → S j < 256 ∧ cur[o + j]? = some (.int .u8 (S j : Nat))) (hbg : b ≠ g) (hc : ∀ j, j < P.length → w.cell? ⟨b, off + j, none⟩ = some (.int .u8 (P[j]?.getD 0 : Nat))) :
    Calls Try.prog 22 #[.slice (some ⟨g, o, none⟩) ls cs, .slice (some ⟨b, off, none⟩) P.length cp, .int .u8 f] w fun e w' => (∃ v, e = .returned v) ∧ OnlyAt g (.cells (upd cur o (fun j => S j ^^^ Gf.gm (P[j]?.getD 0) f) P.length) 5 (0, 0)) w w' := by
  have HS : Hid (∀ j, j < P.length → S j < 256 ∧ cur[o + j]? = some (.int .u8 (S j : Nat))) := hS
  have HC : Hid (∀ j, j < P.length → w.cell? ⟨b, off + j, none⟩ = some (.int .u8 (P[j]?.getD 0 : Nat))) := hc
  have HP : Hid (∀ x ∈ P, x < 256) := hP
  have HW : Hid (w.heap[g]? = some (.cells cur 5 (0, 0))) := hw
  clear hS hc hP hw
  go_enter Try.func22, Try.ntmps22
  go_wp2_with fail
  go_loopw [10] (fun i w' => ∃ k : Nat, k ≤ P.length ∧ i = .int .i64 k ∧ Hid (OnlyAt g (.cells (upd cur o (fun j => S j ^^^ Gf.gm (P[j]?.getD 0) f) k) 5 (0, 0)) w w')) (fun i _ => P.length - (intOf i).toNat)
  case atStart => exact ⟨0, by omega, rfl, OnlyAt.refl HW.out⟩
  case round =>
    obtain ⟨k, hk, rfl, H⟩ := hrel
    rename_i wr
    by_cases hlt : k < P.length
    · have h1 := (H.out.cell (p := ⟨b, off + k, none⟩) hbg).trans (HC.out k hlt)
      have h2 := H.out.read (o + k)
      rw [upd_get, if_neg (by omega), (HS.out k hlt).2] at h2
      have h3 := H.out.frozen (o + k)
      have h4 := (HS.out k hlt).1
      have h5 : P[k]?.getD 0 < 256 := by rw [List.getElem?_eq_getElem hlt]; exact HP.out _ (List.getElem_mem _)
      obtain ⟨pk, hpk⟩ : ∃ pk, P[k]?.getD 0 = pk := ⟨_, rfl⟩
      rw [hpk] at h1 h5
      have HPK : Hid (P[k]?.getD 0 = pk) := hpk
      clear hpk
      have h6 : Gf.gm pk f < 256 := Gf.gm_lt h5
      have h7 := u8_xor_nat _ _ h4 h6
      have hx := Gf.xlt h4 h6
      go_wp2_with fail
      go_region_with (go_at_call 17; refine (mul_any _ _ _ (by omega) (by omega) (by omega) (by omega)).mono ?_; rintro e w1 ⟨rfl, rfl⟩; rw [Int.toNat_natCast, Int.toNat_natCast])
      all_goals go_wp2
      all_goals go_roundw
      all_goals first
        | (case rel => exact ⟨k + 1, by omega, by go_num, by show OnlyAt g (.cells ((upd cur o (fun j => S j ^^^ Gf.gm (P[j]?.getD 0) f) k).setIfInBounds (o + k) (.int .u8 (S k ^^^ Gf.gm (P[k]?.getD 0) f : Nat))) 5 (0, 0)) w _; rw [HPK.out]; repeat (first | exact H.out.set _ | apply OnlyAt.drew)⟩)
        | (simp [intOf]; omega)
    · have hk' : k = P.length := by omega
      subst hk'
      go_wp2_with fail
      go_end0
      exact ⟨⟨_, rfl⟩, H⟩
set_option maxHeartbeats 1000000 in
theorem addTimes_none (sv : Value) (ao : Option Addr) (cp : Nat) (f : Nat) (w : World) :
    Calls Try.prog 22 #[sv, .slice ao 0 cp, .int .u8 f] w fun e w' => (∃ v, e = .returned v) ∧ w' = w := by
  go_enter Try.func22, Try.ntmps22
  go_wp2_with fail
  go_loop [10] (fun i => i = .int .i64 0) (fun _ => 0)
  case atStart => rfl
  case round =>
    subst hrel
    go_wp2_with fail
    go_end0
    exact ⟨⟨_, rfl⟩, rfl⟩
/-- The slice value v holds the bytes L, and none of its memory is block g. -/
def BsN (g : Nat) (w : World) (v : Value) (L : List Nat) : Prop :=
  (∀ x ∈ L, x < 256) ∧ L.length ≤ 140737488351232 ∧ ∃ ao cap, v = .slice ao L.length cap ∧ L.length ≤ cap ∧ (ao = none → cap = 0) ∧
    (L = [] ∨ ∃ b off, ao = some ⟨b, off, none⟩ ∧ b ≠ g ∧ ∀ j, j < L.length → w.cell? ⟨b, off + j, none⟩ = some (.int .u8 (L[j]?.getD 0 : Nat)))
theorem Bs.ne {n g : Nat} {w : World} {v : Value} {L : List Nat} (h : Bs n w v L) (hg : n ≤ g) : BsN g w v L := by
  obtain ⟨h1, h2, ao, cap, h3, h4, h5, h6⟩ := h
  refine ⟨h1, h2, ao, cap, h3, h4, h5, ?_⟩
  rcases h6 with h6 | ⟨b, off, h7, h8, h9⟩
  · exact .inl h6
  · exact .inr ⟨b, off, h7, by omega, h9⟩
theorem Ow.ne {base g : Nat} {w : World} {v : Value} {L : List Nat} (h : Ow base w v L) (hg : g < base) : BsN g w v L := by
  have hs := h.bs
  rcases h.1.2 with ⟨rfl, h4⟩ | ⟨g', cap, cur, rfl, h5, h6, h7⟩
  · obtain rfl : L = [] := List.eq_nil_of_length_eq_zero h4
    exact ⟨by simp, by simp, none, 0, rfl, by simp, fun _ => rfl, .inl rfl⟩
  · obtain ⟨k1, k2, ao, cap', k3, k4, k5, k6⟩ := hs
    injection k3 with k3 _ k3'
    subst k3 k3'
    refine ⟨k1, k2, _, _, rfl, k4, k5, ?_⟩
    rcases k6 with k6 | ⟨b, off, k7, k8, k9⟩
    · exact .inl k6
    · injection k7 with k7
      injection k7 with k7 k7'
      subst k7 k7'
      exact .inr ⟨_, _, rfl, by omega, k9⟩
/-- What poly.addTimes does: of the first places of block g from o on each becomes itself and a byte of P times f; nothing else turns. -/
theorem addTimes_any (g o ls cs : Nat) (cur : Array Value) (S : Nat → Nat) (pv : Value) (P : List Nat) (f : Int) (w : World) (hf : 0 ≤ f) (hf' : f ≤ 255) (hP : BsN g w pv P) (hls : P.length ≤ ls) (hls2 : ls ≤ 140737488351232)
    (hw : w.heap[g]? = some (.cells cur 5 (0, 0))) (hS : ∀ j, j < P.length → S j < 256 ∧ cur[o + j]? = some (.int .u8 (S j : Nat))) :
    Calls Try.prog 22 #[.slice (some ⟨g, o, none⟩) ls cs, pv, .int .u8 f] w fun e w' => (∃ v, e = .returned v) ∧ OnlyAt g (.cells (upd cur o (fun j => S j ^^^ Gf.gm (P[j]?.getD 0) f.toNat) P.length) 5 (0, 0)) w w' := by
  obtain ⟨F, rfl⟩ := Int.eq_ofNat_of_zero_le hf
  rw [Int.toNat_natCast]
  obtain ⟨h1, h2, ao, cap, rfl, h4, h5, h6⟩ := hP
  rcases h6 with rfl | ⟨b, off, rfl, h8, h9⟩
  · refine (addTimes_none _ ao cap F w).mono ?_
    rintro e w' ⟨he, rfl⟩
    exact ⟨he, OnlyAt.refl hw⟩
  · exact addTimes_raw g o ls cs cur S b off cap P F w (by omega) h1 h2 hls hls2 hw hS h8 h9
end Go.Proofs.Ytlccdceeppfleab
