/- slices.SortFunc and slices.Clone of at most twelve weights; the fewest nodes. -/
import Derived.Test.YtegpniiokiejhaaQs
import Derived.Test.YtegpniiokiejhaaQd
import Derived.Deep.AppendSrc
import Derived.Lib.SliceRun
namespace Go.Proofs.Ytegpniiokiejhaa
open Go.ChangeShapes Go.WideShapes Go.ChangeAt Go.RowKit Go.Shelf
set_option maxRecDepth 100000 in
set_option maxHeartbeats 4000000 in
theorem len64_any (n : Nat) (w : World) (h : n ≤ 12) : Calls Try.prog 68 #[.int .u64 n] w fun e w' => (∃ k : Int, e = .returned (.int .i64 k)) ∧ w' = w := by
  have hh : n = 0 ∨ n = 1 ∨ n = 2 ∨ n = 3 ∨ n = 4 ∨ n = 5 ∨ n = 6 ∨ n = 7 ∨ n = 8 ∨ n = 9 ∨ n = 10 ∨ n = 11 ∨ n = 12 := by omega
  rcases hh with rfl | rfl | rfl | rfl | rfl | rfl | rfl | rfl | rfl | rfl | rfl | rfl | rfl
  all_goals
    clear h
    go_enter Try.func68, Try.ntmps68
    go_wp2
    go_ret
    exact ⟨⟨_, rfl⟩, rfl⟩
set_option maxHeartbeats 1000000 in
theorem len_any (n : Nat) (w : World) (h : n ≤ 12) : Calls Try.prog 58 #[.int .u64 n] w fun e w' => (∃ k : Int, e = .returned (.int .i64 k)) ∧ w' = w := by
  go_enter Try.func58, Try.ntmps58
  go_wp2_with fail
  refine (len64_any n _ h).mono ?_
  rintro e w1 ⟨⟨k, rfl⟩, hw⟩
  subst hw
  go_wp2_with fail
  go_ret
  exact ⟨⟨_, rfl⟩, rfl⟩
set_option maxRecDepth 100000 in
set_option maxHeartbeats 4000000 in
theorem pdq_any (L : List Int) (n g c : Nat) (k : Int) (w w0 : World) (hn : L.length = n) (h12 : n ≤ 12) (hw : ∀ x ∈ L, 0 ≤ x ∧ x ≤ 100) (hS : Sg w0 w g n (fi L 0)) :
    Calls Try.prog 57 #[.slice (some ⟨g, 0, none⟩) n c, .int .i64 0, .int .i64 n, .int .i64 k, .func (.func 54) #[] #[]] w fun e w' => e = .returned (.tuple #[]) ∧ Sg w0 w' g n (fi L n) := by
  have HI := hid_of (insSort_any L n g c w w0 hn h12 hw hS)
  clear hn hw hS
  go_enter Try.func57, Try.ntmps57
  go_wp2_with fail
  go_loopw [1, 2] (fun a b w' => a = .int .i64 0 ∧ b = .int .i64 n ∧ w' = w) (fun _ _ _ => 0)
  case atStart => exact ⟨rfl, rfl, rfl⟩
  case round =>
    obtain ⟨rfl, rfl, hw⟩ := hrel
    subst hw
    go_wp2_with fail
    refine HI.out.mono ?_
    rintro e w1 ⟨rfl, h1⟩
    have H1 := hid_of h1
    clear h1
    go_wp2_with fail
    refine bodyPost_ret (results_none rfl _ _ _) rfl ?_
    exact ⟨rfl, H1.out⟩
set_option maxHeartbeats 1000000 in
theorem sort_any (L : List Int) (n g c : Nat) (w w0 : World) (hn : L.length = n) (h12 : n ≤ 12) (hw : ∀ x ∈ L, 0 ≤ x ∧ x ≤ 100) (hS : Sg w0 w g n (fi L 0)) :
    Calls Try.prog 53 #[.slice (some ⟨g, 0, none⟩) n c, .func (.func 54) #[] #[]] w fun e w' => e = .returned (.tuple #[]) ∧ Sg w0 w' g n (fi L n) := by
  have HI := hid_of (fun k => pdq_any L n g c k w w0 hn h12 hw hS)
  clear hn hw hS
  go_enter Try.func53, Try.ntmps53
  go_wp2_with fail
  refine (len_any n _ h12).mono ?_
  rintro e w1 ⟨⟨k, rfl⟩, hw⟩
  subst hw
  go_wp2_with fail
  refine (HI.out k).mono ?_
  rintro e w1 ⟨rfl, h1⟩
  have H1 := hid_of h1
  clear h1
  go_wp2_with fail
  go_end0
  exact ⟨rfl, H1.out⟩
/-- numbers as cells -/
def cellsZ (L : List Int) : List Value := L.map fun x => .int .i64 x
theorem cellsZ_get {L : List Int} {j : Nat} (h : j < L.length) : (cellsZ L)[j]? = some (.int .i64 (L[j]?.getD 0)) := by
  simp [cellsZ, h]
theorem cellsZ_one (L : List Int) : ∀ u ∈ cellsZ L, u.oneCell' = true := by
  intro u hu
  simp only [cellsZ, List.mem_map] at hu
  obtain ⟨x, _, rfl⟩ := hu
  rfl
theorem cell_new {w : World} {p : Addr} {u : Value} (o : Obj) (h : w.cell? p = some u) : (w.alloc o).cell? p = some u := by
  rw [World.cell?_alloc_lt _ _ _ (cell_lt h)]; exact h
theorem info3 : (Try.prog.info? 3).map (fun i => (i.zero, i.size, i.bytes)) = some (some (.int .i64 0), 1, 8) := by kernel_rfl
theorem und31 : Try.prog.underlying 31 = some (.slice 3) := by kernel_rfl
theorem eqnil (w : World) (a : Option Addr) (l c : Nat) : (binOp .eql 31 (.slice a l c) (.slice none 0 0)).run Try.prog w = .ok (.bool a.isNone) w := Lib.run_eql_slice_nil w 31 3 a l c 0 0 und31
set_option maxHeartbeats 1000000 in
theorem clone_any (v : Value) (L : List Int) (N : Nat) (w : World) (hL : Is N w v L) (h1 : 1 ≤ L.length) (h2 : L.length ≤ 12) :
    Calls Try.prog 52 #[v] w fun e w' => ∃ g c, e = .returned (.slice (some ⟨g, 0, none⟩) L.length c) ∧ Sg w w' g L.length (fi L 0) ∧ L.length ≤ c := by
  obtain ⟨l2, ao, cap, rfl, hcap, h6⟩ := hL
  rcases h6 with h6 | ⟨b, off, rfl, hb, hc⟩
  · rw [h6] at h1; simp at h1
  have HN : Hid (∀ j u, (cellsZ L)[j]? = some u → w.cell? ⟨b, off + j, none⟩ = some u) := hid_of fun j u hj => by
    have hl : j < L.length := by have := (List.getElem?_eq_some_iff.1 hj).1; simpa [cellsZ] using this
    rw [hc j hl, ← cellsZ_get hl, hj]
  have he : ∀ w : World, (binOp .eql 31 (.slice (some ⟨b, off, none⟩) L.length cap) (.slice none 0 0)).run Try.prog w = .ok (.bool false) w := fun w => eqnil w _ _ _
  obtain ⟨i0, hi, hz0, hz1, hz2⟩ := info_parts info3
  clear hc
  go_enter Try.func52, Try.ntmps52
  go_wp2_with (at_builtin; refine wpList_append_own _ rfl _ _ 31 rfl w.heap.size 3 i0 (.int .i64 0) 1 8 und31 hi hz0 hz1 hz2 rfl (by decide) _ 0 [] rfl (World.ownsRow_lit w #[] 0 (Nat.le_refl _) (by decide) rfl) ⟨b, off, none⟩ L.length cap (cellsZ L) rfl (by simp [cellsZ]) (fun j u hj => cell_new _ (by rw [Go.WideShapes.add_plain]; exact HN.out j u hj)) (cellsZ_one L) (by unfold maxLen; omega) (by omega) (by simp) ?_; intro v' w1 hown hgrow hnil)
  rw [Nat.zero_add, List.nil_append] at hown
  have hB := ((Below.refl w.heap.size w).alloc (Nat.le_refl _) _).grown hgrow (by simp) (fun k e => by cases e; exact Nat.le_refl _)
  rcases hown.2 with ⟨rfl, h4⟩ | ⟨g, c, cur, rfl, h5, h6, h7, h8, h9⟩
  · omega
  have H9 : Hid (Sg w w1 g L.length (fi L 0)) := by
    have hcell : ∀ k, k < L.length → cur[k]? = some (.int .i64 (fi L 0 k)) := fun k hk => by
      have h := World.ownsRow.cellAt (n := L.length) hown k (by omega)
      rw [cellsZ_get hk] at h
      simp only [World.cell?, h6] at h
      rw [show fi L 0 k = L[k]?.getD 0 from by unfold fi; rw [if_neg (by omega)]]
      exact h
    refine ⟨hB, h5, cur, h6, ?_, hcell⟩
    have := (Array.getElem?_eq_some_iff.1 (hcell (L.length - 1) (by omega))).1
    omega
  clear hown hB
  go_ret
  exact ⟨g, c, rfl, H9.out, h7⟩
/-- k is the least of which so many of the heaviest weigh at least m -/
def Least (O : List Int) (m : Int) (k : Nat) : Prop := k ≤ O.length ∧ m ≤ pre k O ∧ ∀ i, i < k → pre i O < m
theorem fi_all (L : List Int) (k : Nat) (hk : k < L.length) : fi L L.length k = (srt L)[k]?.getD 0 := by
  unfold fi
  rw [if_pos hk, List.take_length]
theorem srt_length (L : List Int) : (srt L).length = L.length := by
  have := srt_len L L.length (Nat.le_refl _)
  rwa [List.take_length] at this
theorem pre_bd {L : List Int} (hW : Wok L) : ∀ k, k ≤ L.length → 0 ≤ pre k (srt L) ∧ pre k (srt L) ≤ 100 * (k : Int)
  | 0, _ => by simp [pre]
  | k + 1, hk => by
    have ih := pre_bd hW k (by omega)
    have hl : k < (srt L).length := by rw [srt_length]; omega
    have hx := hW.ok ((srt L)[k]?.getD 0) (srt_mem (y := (srt L)[k]?.getD 0) L.length (Nat.le_refl _) (by rw [List.take_length, List.getElem?_eq_getElem hl]; exact List.getElem_mem _))
    rw [pre_succ hl]
    push_cast
    omega
theorem srt_total (L : List Int) : pre L.length (srt L) = L.sum := by
  have h := srt_sum L L.length (Nat.le_refl _)
  rw [List.take_length] at h
  rw [← h, ← pre_all, srt_length]
set_option maxHeartbeats 1000000 in
theorem fewest_any (v : Value) (L : List Int) (m : Int) (w : World) (hL : Is w.heap.size w v L) (hW : Wok L) (hm : m ≤ L.sum) :
    Calls Try.prog 44 #[v, .int .i64 m] w fun e w' => ∃ k : Nat, e = .returned (.int .i64 k) ∧ Least (srt L) m k ∧ Below w.heap.size w w' := by
  have HL := hid_of hL
  have HW := hid_of hW
  have HM : Hid (m ≤ pre L.length (srt L)) := hid_of (by rw [srt_total]; exact hm)
  obtain ⟨w1, w2, w3⟩ := hW
  have H3 := hid_of w3
  clear hL w3
  go_enter Try.func44, Try.ntmps44
  go_wp2_with fail
  refine (clone_any _ L _ _ HL.out w1 w2).mono ?_
  rintro e w4 ⟨g, c, rfl, hS, hc⟩
  have HS := hid_of hS
  clear hS
  obtain ⟨n, hn⟩ : ∃ n, L.length = n := ⟨_, rfl⟩
  have HNN := hid_of hn
  rw [hn] at HS hc w1 w2 ⊢
  clear hn
  go_wp2_with fail
  refine (sort_any L n g c _ w HNN.out w2 H3.out HS.out).mono ?_
  rintro e w5 ⟨rfl, hS⟩
  have HF : Hid (∀ k, k < n → w5.cell? ⟨g, k, none⟩ = some (.int .i64 ((srt L)[k]?.getD 0))) := hid_of fun k hk => by
    rw [hS.cell hk, ← HNN.out, fi_all L k (by rw [HNN.out]; exact hk)]
  have HB := hid_of hS.bel
  clear hS HS
  go_wp2_with fail
  go_loopw [6, 7] (fun k s w' => ∃ i : Nat, i ≤ n ∧ k = .int .i64 i ∧ s = .int .i64 (pre i (srt L)) ∧ Hid (∀ j, j < i → pre j (srt L) < m) ∧ w' = w5) (fun k _ _ => n - (intOf k).toNat)
  case atStart => exact ⟨0, by omega, rfl, rfl, fun j hj => by omega, rfl⟩
  case round =>
    obtain ⟨i, hi, rfl, rfl, HJ, hw⟩ := hrel
    subst hw
    obtain ⟨p1, p2⟩ := pre_bd HW.out i (by rw [HNN.out]; exact hi)
    by_cases c1 : pre i (srt L) < m
    · have hin : i < n := by
        by_cases e : i = n
        · have h := HM.out
          rw [HNN.out, ← e] at h
          omega
        · omega
      have hx := HF.out i hin
      have HT := hid_of (pre_succ (O := srt L) (k := i) (by rw [srt_length, HNN.out]; exact hin))
      obtain ⟨q1, q2⟩ := pre_bd HW.out (i + 1) (by rw [HNN.out]; exact hin)
      have HJ2 : Hid (∀ j, j < i + 1 → pre j (srt L) < m) := hid_of fun j hj => by
        by_cases e : j = i
        · subst e; exact c1
        · exact HJ.out j (by omega)
      obtain ⟨x, hxe⟩ : ∃ x, (srt L)[i]?.getD 0 = x := ⟨_, rfl⟩
      rw [hxe] at hx HT
      have hq := HT.out
      rw [hq] at q1 q2
      have t3 : (i : Int) < (n : Int) := by omega
      clear hxe hq
      go_wp2_with fail
      go_roundw
      case rel => exact ⟨i + 1, by omega, by go_num, by rw [HT.out], HJ2, trivial⟩
      case measure => simp [intOf]; omega
    · have HJ1 : Hid (m ≤ pre i (srt L)) := hid_of (by omega)
      go_wp2_with fail
      go_ret
      exact ⟨i, rfl, ⟨by rw [srt_length, HNN.out]; exact hi, HJ1.out, HJ.out⟩, HB.out⟩
end Go.Proofs.Ytegpniiokiejhaa
