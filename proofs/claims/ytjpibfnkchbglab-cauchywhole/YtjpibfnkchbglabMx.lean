/- Matrices in memory, to be read: a list of lists of bytes; what matrix.Check, isSize and unitAt answer. -/
import Derived.Test.YtjpibfnkchbglabFill
namespace Go.Proofs.Ytjpibfnkchbglab
open Go.ChangeShapes Go.WideShapes Go.ChangeAt Go.RowKit Go.Shelf
/-- The slice value v holds the rows A; all their memory lies below block n. -/
def Mx (n : Nat) (w : World) (v : Value) (A : List (List Nat)) : Prop :=
  A.length ≤ 140737488351232 ∧ ∃ ao cap, v = .slice ao A.length cap ∧ A.length ≤ cap ∧
    (A = [] ∨ ∃ b off, ao = some ⟨b, off, none⟩ ∧ b < n ∧ ∀ j, j < A.length → ∃ r, w.cell? ⟨b, off + j, none⟩ = some r ∧ Bs n w r (A[j]?.getD []))
theorem Mx.below {n : Nat} {w w' : World} {v : Value} {A : List (List Nat)} (h : Mx n w v A) (hb : Below n w w') : Mx n w' v A := by
  obtain ⟨h2, ao, cap, h3, h4, h6⟩ := h
  refine ⟨h2, ao, cap, h3, h4, ?_⟩
  rcases h6 with h6 | ⟨b, off, h7, h8, h9⟩
  · exact .inl h6
  · refine .inr ⟨b, off, h7, h8, fun j hj => ?_⟩
    obtain ⟨r, c1, c2⟩ := h9 j hj
    exact ⟨r, (hb.cell (p := ⟨b, off + j, none⟩) h8).trans c1, c2.below hb⟩
theorem Mx.mono {n m : Nat} {w : World} {v : Value} {A : List (List Nat)} (h : Mx n w v A) (hm : n ≤ m) : Mx m w v A := by
  obtain ⟨h2, ao, cap, h3, h4, h6⟩ := h
  refine ⟨h2, ao, cap, h3, h4, ?_⟩
  rcases h6 with h6 | ⟨b, off, h7, h8, h9⟩
  · exact .inl h6
  · refine .inr ⟨b, off, h7, by omega, fun j hj => ?_⟩
    obtain ⟨r, c1, c2⟩ := h9 j hj
    exact ⟨r, c1, c2.mono hm⟩
theorem Mx.nil (n : Nat) (w : World) : Mx n w (.slice none 0 0) [] := ⟨by simp, none, 0, rfl, by simp, .inl rfl⟩
theorem Mx.shape {n : Nat} {w : World} {v : Value} {A : List (List Nat)} (h : Mx n w v A) : ∃ a c, v = .slice a A.length c := by
  obtain ⟨_, a, c, h, _⟩ := h
  exact ⟨a, c, h⟩
/-- one of the rows -/
theorem Mx.at {n l c : Nat} {w : World} {a : Option Addr} {A : List (List Nat)} (h : Mx n w (.slice a l c) A) {j : Nat} (hj : j < A.length) : ∃ b off ra rc, a = some ⟨b, off, none⟩ ∧ w.cell? ⟨b, off + j, none⟩ = some (.slice ra (A[j]?.getD []).length rc) ∧ Bs n w (.slice ra (A[j]?.getD []).length rc) (A[j]?.getD []) := by
  obtain ⟨_, a', c', h, _, h6⟩ := h
  injection h with h _ _
  subst h
  rcases h6 with h | ⟨b, off, e, _, hc⟩
  · rw [h] at hj; simp at hj
  · obtain ⟨r, c1, c2⟩ := hc j hj
    obtain ⟨ra, rc, hr⟩ : ∃ ra rc, r = .slice ra (A[j]?.getD []).length rc := by
      obtain ⟨_, _, ra, rc, h, _⟩ := c2
      exact ⟨ra, rc, h⟩
    subst hr
    exact ⟨b, off, ra, rc, e, c1, c2⟩
theorem Bs.at {n l c : Nat} {w : World} {a : Option Addr} {L : List Nat} (h : Bs n w (.slice a l c) L) {j : Nat} (hj : j < L.length) : ∃ b off, a = some ⟨b, off, none⟩ ∧ w.cell? ⟨b, off + j, none⟩ = some (.int .u8 (L[j]?.getD 0 : Nat)) := by
  obtain ⟨_, _, a', c', h, _, _, h6⟩ := h
  injection h with h _ _
  subst h
  rcases h6 with h | ⟨b, off, e, _, hc⟩
  · rw [h] at hj; simp at hj
  · exact ⟨b, off, e, hc j hj⟩
/-- so many rows and columns of a function -/
def tab (n cols : Nat) (f : Nat → Nat → Nat) : List (List Nat) := (List.range n).map fun i => rl cols (f i)
theorem tab_len (n cols : Nat) (f : Nat → Nat → Nat) : (tab n cols f).length = n := by simp [tab]
theorem tab_get {n cols : Nat} (f : Nat → Nat → Nat) {i : Nat} (h : i < n) : (tab n cols f)[i]?.getD [] = rl cols (f i) := by simp [tab, h]
theorem FS.mx {w w' : World} {g n cols : Nat} {ρ : Nat → Nat} {f : Nat → Nat → Nat} (h : FS w w' g n cols ρ n f) (hn : n ≤ 64) (hc : cols ≤ 64) (hb : ∀ i k, i < n → k < cols → f i k < 256) : Mx w'.heap.size w' (.slice (some ⟨g, 0, none⟩) n n) (tab n cols f) := by
  refine ⟨by rw [tab_len]; omega, _, _, by rw [tab_len], by rw [tab_len]; exact Nat.le_refl _, .inr ⟨g, 0, rfl, heap_lt h.out, fun j hj => ?_⟩⟩
  rw [tab_len] at hj
  refine ⟨_, by rw [Nat.zero_add]; exact h.cell hj (Nat.le_refl _), ?_⟩
  rw [tab_get f hj]
  refine ⟨?_, by rw [rl_len]; omega, _, _, by rw [rl_len], by rw [rl_len]; exact Nat.le_refl _, by simp, .inr ⟨ρ j, 0, rfl, heap_lt (h.row j hj).2, fun k hk => ?_⟩⟩
  · intro x hx
    obtain ⟨k, hk, rfl⟩ := List.mem_map.1 hx
    exact hb j k hj (List.mem_range.1 hk)
  · rw [rl_len] at hk
    rw [Nat.zero_add, rl_get _ hk]
    exact h.byte hj hk
theorem fill_mx (rows cols c : Nat) (lb : Array Value) (f : Nat → Nat → Nat) (w : World) (hr : rows ≤ 64) (hc : cols ≤ 64) (hcf : ∀ (args : Array Value) (W : World), (callFunc c args).run Try.prog W = .ok (.enter c args) W) (hC : Clo c lb w f rows cols) :
    Calls Try.prog 28 #[.int .i64 (rows : Nat), .int .i64 (cols : Nat), .func (.func c) #[] lb] w fun e w' => ∃ v, e = .returned v ∧ Mx w'.heap.size w' v (tab rows cols f) ∧ Below w.heap.size w w' ∧ ∃ ρ, v = .slice (some ⟨w.heap.size, 0, none⟩) rows rows ∧ FS w w' w.heap.size rows cols ρ rows f := by
  refine (fill_any rows cols c lb f w hr hc hcf hC).mono ?_
  rintro e w' ⟨ρ, rfl, hF⟩
  exact ⟨_, rfl, hF.mx hr hc (fun i k hi hk => (hC w (Below.refl _ _) i k hi hk).1), hF.bel, ρ, rfl, hF⟩
/-- what Check says of the rows one by one -/
def chkR (n : Nat) : List (List Nat) → Nat
  | [] => 0
  | r :: rs => if 16 < r.length then 2 else if r.length = 0 ∨ r.length ≠ n then 1 else chkR n rs
/-- what Check says -/
def chk (A : List (List Nat)) : Nat := if 16 < A.length then 2 else if A.length = 0 then 1 else chkR (A[0]?.getD []).length A
theorem drop_cons {A : List (List Nat)} {k : Nat} (h : k < A.length) : A.drop k = (A[k]?.getD []) :: A.drop (k + 1) := by
  rw [List.drop_eq_getElem_cons h, List.getElem?_eq_getElem h]; rfl
set_option maxRecDepth 100000 in
set_option maxHeartbeats 2000000 in
theorem check_any (v : Value) (A : List (List Nat)) (n : Nat) (w : World) (h : Mx n w v A) :
    Calls Try.prog 33 #[v] w fun e w' => e = .returned (.int .i64 (chk A : Nat)) ∧ w' = w := by
  have HM := hid_of h
  obtain ⟨a2, ao, cap, rfl, a4, a6⟩ := h
  clear a6
  by_cases c1 : 16 < A.length
  · have z : decide ((16 : Int) < (A.length : Int)) = true := decide_eq_true (by omega)
    have HE : Hid (chk A = 2) := by show chk A = 2; unfold chk; rw [if_pos c1]
    go_enter Try.func33, Try.ntmps33
    go_wp2_with fail
    go_ret
    exact ⟨by rw [HE.out]; rfl, rfl⟩
  · have z : decide ((16 : Int) < (A.length : Int)) = false := decide_eq_false (by omega)
    by_cases c2 : A.length = 0
    · have HE : Hid (chk A = 1) := by show chk A = 1; unfold chk; rw [if_neg c1, if_pos c2]
      rw [c2] at z ⊢
      go_enter Try.func33, Try.ntmps33
      go_wp2_with fail
      go_ret
      exact ⟨by rw [HE.out]; rfl, rfl⟩
    · have z2 : ((A.length : Int) == 0) = false := by rw [beq_eq_false_iff_ne]; omega
      have HE : Hid (chk A = chkR (A[0]?.getD []).length (A.drop 0)) := by show chk A = _; unfold chk; rw [if_neg c1, if_neg c2]; rfl
      obtain ⟨b, off, r0, k0, rfl, hz, hz2⟩ := HM.out.at (j := 0) (by omega)
      obtain ⟨n0, hn0⟩ : ∃ n, (A[0]?.getD []).length = n := ⟨_, rfl⟩
      rw [hn0] at HE hz
      have l0 : n0 ≤ 140737488351232 := by rw [← hn0]; exact hz2.2.1
      rw [Nat.add_zero] at hz
      clear hz2 hn0
      go_enter Try.func33, Try.ntmps33
      go_wp2_with fail
      go_loopw [15] (fun i w' => ∃ k : Nat, k ≤ A.length ∧ i = .int .i64 k ∧ Hid (chk A = chkR n0 (A.drop k)) ∧ w' = w) (fun i _ => A.length - (intOf i).toNat)
      case atStart => exact ⟨0, by omega, rfl, HE, rfl⟩
      case round =>
        obtain ⟨k, hk, rfl, HK, hw⟩ := hrel
        subst hw
        by_cases hlt : k < A.length
        · obtain ⟨b', off', r1, k1, e1, hx, hx2⟩ := HM.out.at (j := k) hlt
          cases e1
          have hd := HK.out
          rw [drop_cons hlt, chkR] at hd
          obtain ⟨n1, hn1⟩ : ∃ n, (A[k]?.getD []).length = n := ⟨_, rfl⟩
          have l1 : n1 ≤ 140737488351232 := by rw [← hn1]; exact hx2.2.1
          rw [hn1] at hx hd
          clear hx2 hn1
          by_cases d1 : 16 < n1
          · rw [if_pos d1] at hd
            have HD := hid_of hd
            have y : decide ((16 : Int) < (n1 : Int)) = true := decide_eq_true (by omega)
            clear hd
            go_wp2_with fail
            go_ret
            exact ⟨by rw [HD.out]; rfl, rfl⟩
          · rw [if_neg d1] at hd
            have y : decide ((16 : Int) < (n1 : Int)) = false := decide_eq_false (by omega)
            by_cases d2 : n1 = 0
            · rw [if_pos (.inl d2)] at hd
              have HD := hid_of hd
              subst d2
              clear hd
              go_wp2_with fail
              go_ret
              exact ⟨by rw [HD.out]; rfl, rfl⟩
            · have y2 : ((n1 : Int) == 0) = false := by rw [beq_eq_false_iff_ne]; omega
              by_cases d3 : n1 = n0
              · rw [if_neg (by omega)] at hd
                have HD := hid_of hd
                have y3 : ((n1 : Int) != (n0 : Int)) = false := by rw [d3]; simp
                clear hd d3
                go_wp2_with fail
                go_roundw
                case rel => exact ⟨k + 1, by omega, by go_num, HD, trivial⟩
                case measure => simp [intOf]; omega
              · rw [if_pos (.inr d3)] at hd
                have HD := hid_of hd
                have y3 : ((n1 : Int) != (n0 : Int)) = true := by rw [bne_iff_ne]; omega
                clear hd d3
                go_wp2_with fail
                go_ret
                exact ⟨by rw [HD.out]; rfl, rfl⟩
        · have hke : k = A.length := by omega
          subst hke
          have hd := HK.out
          rw [List.drop_length, chkR] at hd
          have HD := hid_of hd
          clear hd
          go_wp2_with fail
          go_ret
          exact ⟨by rw [HD.out]; rfl, rfl⟩
end Go.Proofs.Ytjpibfnkchbglab
