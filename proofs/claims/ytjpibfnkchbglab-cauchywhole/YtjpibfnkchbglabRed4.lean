/- What matrix.reduce answers, and what it does to the matrix. -/
import Derived.Test.YtjpibfnkchbglabRed3
namespace Go.Proofs.Ytjpibfnkchbglab
open Go.ChangeShapes Go.WideShapes Go.ChangeAt Go.RowKit Go.Shelf
theorem box3 (W : World) (k : Nat) : (W.alloc (.cells #[.int .i64 (k : Nat)] 3)).cell? ⟨W.heap.size, 0, none⟩ = some (.int .i64 (k : Nat)) ∧ Below W.heap.size W (W.alloc (.cells #[.int .i64 (k : Nat)] 3)) := ⟨by simp [go_sem], (Below.refl _ W).alloc (Nat.le_refl _) _⟩
theorem red_none {n k r : Nat} {M : Nat → Nat → Nat} {A : Nat → Nat → Nat} (hs : red n A (k + 1) = match fnd M k (n - r) r with
    | none => red n A k
    | some i => (r + 1, elN r k n (led r k (swp r i M)))) (h : fnd M k (n - r) r = none) : red n A (k + 1) = red n A k := by rw [hs, h]
theorem red_some {n k r i : Nat} {M : Nat → Nat → Nat} {A : Nat → Nat → Nat} (hs : red n A (k + 1) = match fnd M k (n - r) r with
    | none => red n A k
    | some i => (r + 1, elN r k n (led r k (swp r i M)))) (h : fnd M k (n - r) r = some i) : red n A (k + 1) = (r + 1, elN r k n (led r k (swp r i M))) := by rw [hs, h]
theorem elN_self {r k t x : Nat} {L : Nat → Nat → Nat} (h : t ≤ x ∨ x = r) : elN r k t L x = L x := by
  unfold elN
  rw [if_neg (by omega)]
theorem elN_zero (r k : Nat) (L : Nat → Nat → Nat) : elN r k 0 L = L := funext fun _ => elN_self (.inl (Nat.zero_le _))
theorem elN_skip (r k : Nat) (L : Nat → Nat → Nat) : elN r k (r + 1) L = elN r k r L := by
  funext x
  unfold elN
  by_cases h : x ≠ r ∧ x < r
  · rw [if_pos h, if_pos ⟨h.1, by omega⟩]
  · rw [if_neg h, if_neg (by omega)]
theorem elN_step {r k t : Nat} (h : t ≠ r) (L : Nat → Nat → Nat) : (fun x => if x = t then (fun j => L t j ^^^ Gf.gm (L r j) (L t k)) else elN r k t L x) = elN r k (t + 1) L := by
  funext x
  by_cases e : x = t
  · subst e
    rw [if_pos rfl]
    unfold elN
    rw [if_pos ⟨h, by omega⟩]
  · rw [if_neg e]
    unfold elN
    by_cases d : x ≠ r ∧ x < t
    · rw [if_pos d, if_pos ⟨d.1, by omega⟩]
    · rw [if_neg d, if_neg (by omega)]
theorem Chg.cell {b : Nat} {o : Obj} {W W' : World} (h : Chg b o W W') {p : Addr} (hp : p.block ≠ b) (hl : p.block < W.heap.size) : W'.cell? p = W.cell? p := World.cell?_of_block (w := W) (h.block p.block hl hp)
theorem swap_mid {w W : World} {g n c : Nat} {ρ : Nat → Nat} {A : Nat → Nat → Nat} (h : FS w W g n c ρ n A) {r i : Nat} (hr : r < n) (hi : i < n) :
    (W.setCell ⟨g, r, none⟩ (.slice (some ⟨ρ i, 0, none⟩) c c)).cell? ⟨g, i, none⟩ = some (.slice (some ⟨ρ i, 0, none⟩) c c) ∧ (W.setCell ⟨g, r, none⟩ (.slice (some ⟨ρ i, 0, none⟩) c c)).frozen? ⟨g, i, none⟩ = false := by
  have hO := (OnlyAt.refl h.out).set (i := r) (.slice (some ⟨ρ i, 0, none⟩) c c)
  refine ⟨?_, hO.frozen i⟩
  rw [hO.read i, Array.getElem?_setIfInBounds, List.getElem?_toArray, List.size_toArray, oc_len, oc_get hi, if_pos hi]
  by_cases e : r = i
  · rw [if_pos e, if_pos hr]
  · rw [if_neg e]
set_option maxRecDepth 100000 in
set_option maxHeartbeats 8000000 in
theorem reduce_any (w W : World) (g n c cols : Nat) (ρ : Nat → Nat) (A : Nat → Nat → Nat) (hn : n ≤ 64) (hc : c ≤ 64) (hcc : cols ≤ c) (hA : Bm n c A) (hF : FS w W g n c ρ n A) :
    Calls Try.prog 39 #[.slice (some ⟨g, 0, none⟩) n n, .int .i64 (cols : Nat)] W fun e W' => e = .returned (.int .i64 ((red n A cols).1 : Nat)) ∧ (∃ σ, FS w W' g n c σ n (red n A cols).2) ∧ Kp g n ρ W W' := by
  have HOK := hid_of (red_ok hA)
  have HF0 := hid_of hF
  have hmf : ∀ (fn : Fn) (first cap : Array Value) (w : World), (Instr.makeFunc fn first cap).run Try.prog w = .ok (.func fn first cap) w := fun _ _ _ _ => rfl
  clear hF hA
  go_enter Try.func39, Try.ntmps39
  go_wp2_with fail
  go_loopw [5, 11] (fun r i W' => ∃ (k : Nat) (σ : Nat → Nat), k ≤ cols ∧ i = .int .i64 k ∧ r = .int .i64 ((red n A k).1 : Nat) ∧ Hid (FS w W' g n c σ n (red n A k).2) ∧ Hid (∀ j, j < n → ∃ k, k < n ∧ σ j = ρ k) ∧ Hid (Kp g n ρ W W')) (fun _ i _ => cols - (intOf i).toNat)
  case atStart => exact ⟨0, ρ, by omega, rfl, rfl, HF0, fun j hj => ⟨j, hj, rfl⟩, Kp.refl _ _ _ _⟩
  case round =>
    obtain ⟨k, σ, hk, rfl, rfl, HF, HP, HK⟩ := hrel
    by_cases hlt : k < cols
    · obtain ⟨hr, hb⟩ := HOK.out k
      have hs : red n A (k + 1) = rstep n k (red n A k) := rfl
      obtain ⟨r, hre⟩ : ∃ r, (red n A k).1 = r := ⟨_, rfl⟩
      obtain ⟨M, hMe⟩ : ∃ M, (red n A k).2 = M := ⟨_, rfl⟩
      unfold rstep at hs
      rw [hre] at hr hs ⊢
      rw [hMe] at hb hs HF
      obtain ⟨b1, b2⟩ := box3 wr k
      have HG := hid_of (heap_lt HF.out.out)
      have HRB : Hid (∀ j, j < n → σ j < wr.heap.size) := hid_of fun j hj => heap_lt (HF.out.row j hj).2
      have HF1 := hid_of (HF.out.below b2)
      have HK1 := hid_of (HK.out.trans (Kp.below b2))
      have HS := hid_of hs
      have HB := hid_of hb
      have hkc : k < c := by omega
      have RE := hid_of hre
      have HM := hid_of hMe
      clear b2 hs hb hre hMe HF HK
      by_cases hrn : r = n
      · have hn1 := red_none HS.out (by rw [hrn, Nat.sub_self]; rfl)
        have HN1 := hid_of hn1
        clear hn1
        subst hrn
        go_wp2_with fail
        refine (indexF_none _ _ _ _).mono ?_
        rintro e w2 ⟨rfl, hw2⟩
        subst hw2
        go_wp2_with fail
        go_roundw
        case rel => exact ⟨k + 1, σ, by omega, by go_num, by rw [HN1.out, RE.out], by rw [HN1.out, HM.out]; exact HF1, HP, HK1⟩
        case measure => simp [intOf]; omega
      · have hrl : r < n := by omega
        have hne : ¬ n = r := by omega
        have B1 := hid_of b1
        clear b1
        go_wp2_with fail
        generalize wr.alloc (.cells #[.int .i64 (k : Nat)] 3) = w1 at *
        refine (indexF_any g r (n - r) (n - r) c k wr.heap.size σ M _ (by omega) hkc (fun j hj => HB.out _ _ (by omega) hkc) (fun j hj => HF1.out.cell (by omega) (Nat.le_refl _)) (fun j hj => (HF1.out.row _ (by omega)).2) B1.out).mono ?_
        rintro e w2 ⟨⟨x, rfl, hx⟩, hw2⟩
        subst hw2
        rcases hx with ⟨rfl, hz⟩ | ⟨j, rfl, hj, hj1, hj2⟩
        · have hn1 := red_none HS.out (fnd_none hz)
          have HN1 := hid_of hn1
          clear hn1
          go_wp2_with fail
          go_roundw
          case rel => exact ⟨k + 1, σ, by omega, by go_num, by rw [HN1.out, RE.out], by rw [HN1.out, HM.out]; exact HF1, HP, HK1⟩
          case measure => simp [intOf]; omega
        · have hn1 := red_some HS.out (fnd_some hj hj1 hj2)
          have s1 : IntKind.i64.wrap ((r : Int) + (j : Int)) = ((r + j : Nat) : Int) := by rw [IntKind.wrap_i64]; omega
          have hjn : decide ((j : Int) < 0) = false := decide_eq_false (by omega)
          have hil : r + j < n := by omega
          obtain ⟨i, hie⟩ : ∃ i, r + j = i := ⟨_, rfl⟩
          rw [hie] at s1 hn1 hj1 hil
          have q1 : (i : Int) < (n : Int) := by omega
          have q2 : (r : Int) < (n : Int) := by omega
          have HN1 := hid_of hn1
          have HJ1 := hid_of hj1
          have d1 := HF1.out.cell hil (Nat.le_refl _)
          have d2 := HF1.out.cell hrl (Nat.le_refl _)
          have f1 := HF1.out.ofrozen i
          have f2 := HF1.out.ofrozen r
          have HFd := hid_of HF1.out.drew
          have d3 := HFd.out.cell hil (Nat.le_refl _)
          have d4 := HFd.out.cell hrl (Nat.le_refl _)
          have f3 := HFd.out.ofrozen i
          have f4 := HFd.out.ofrozen r
          obtain ⟨d5, f5⟩ := swap_mid HF1.out hrl hil
          have HSW := hid_of (HF1.out.swap hrl hil)
          clear hn1 hj1 hj2 hie HS
          go_wp2_with fail
          go_region
          have F3 := hid_of HSW.out.1.drew
          have K3 := hid_of (HK1.out.trans (Kp.only (n := n) (ρ := ρ) HSW.out.2)).drew
          have P3 := hid_of (swp_perm hrl hil HP.out)
          have B3 := hid_of ((HSW.out.2.drew.cell (p := ⟨wr.heap.size, 0, none⟩) (by have := HG.out; show wr.heap.size ≠ g; omega)).trans B1.out)
          have R3 : Hid (∀ j, j < n → swp r i σ j < wr.heap.size) := hid_of fun j hj => by
            unfold swp
            split
            · exact HRB.out i hil
            · split
              · exact HRB.out r hrl
              · exact HRB.out j hj
          have M3 := hid_of (Bm.swp HB.out hrl hil)
          have hM : swp r i M r k ≠ 0 := by unfold swp; rw [if_pos rfl]; exact HJ1.out
          have HM0 := hid_of hM
          clear d1 d2 d3 d4 d5 f1 f2 f3 f4 f5 HSW hM HB HRB HP B1 HK1 HF1 HFd HJ1 s1
          generalize ((w2.setCell ⟨g, r, none⟩ (.slice (some ⟨σ i, 0, none⟩) c c)).setCell ⟨g, i, none⟩ (.slice (some ⟨σ r, 0, none⟩) c c)).drew = w3 at *
          generalize swp r i σ = τ at *
          have HMM := hid_of (show red n A (k + 1) = (r + 1, elN r k n (led r k (swp r i M))) from HN1.out)
          generalize swp r i M = N at *
          have F3d := hid_of F3.out.drew
          have d1 := F3.out.cell hrl (Nat.le_refl _)
          have d2 := F3d.out.cell hrl (Nat.le_refl _)
          have d3 := B3.out
          have d4 : w3.drew.cell? ⟨wr.heap.size, 0, none⟩ = some (.int .i64 (k : Nat)) := B3.out
          go_wp2_with fail
          go_region_with (go_at_call 67; refine (lead_any (τ r) c k (N r) _ hc hkc (fun j hj => M3.out r j hrl hj) HM0.out (F3d.out.row r hrl).2).mono ?_; rintro e w4 ⟨⟨u, rfl⟩, hC⟩)
          all_goals (
            have F4 : Hid (FS w w4 g n c τ n (led r k N)) := hid_of (F3d.out.chg hrl hC)
            have K4 := hid_of (K3.drew.trans ((Kp.chg (g := g) (ρ := τ) hC hrl).perm P3.out))
            have B4 := hid_of ((hC.cell (p := ⟨wr.heap.size, 0, none⟩) (by have := R3.out r hrl; show wr.heap.size ≠ τ r; omega) (cell_lt d4)).trans d4)
            have ML := hid_of (Bm.led (k := k) M3.out hrl)
            clear hC d1 d2 d3 d4 F3 F3d K3 B3 HG
            generalize wr.heap.size = bk at *
            generalize led r k N = L at *
            rw [← elN_zero r k L] at F4
            go_wp2_with fail
            go_loopw [47] (fun i' W' => ∃ t : Nat, t ≤ n ∧ i' = .int .i64 t ∧ Hid (FS w W' g n c τ n (elN r k t L)) ∧ Hid (Kp g n ρ W W') ∧ Hid (W'.cell? ⟨bk, 0, none⟩ = some (.int .i64 (k : Nat)))) (fun i' _ => n - (intOf i').toNat)
            case atStart => exact ⟨0, by omega, rfl, F4, K4, B4⟩
            case round =>
              obtain ⟨t, ht, rfl, F5, K5, B5⟩ := hrel
              by_cases htl : t < n
              · have d1 := F5.out.cell htl (Nat.le_refl _)
                by_cases e : t = r
                · subst e
                  have F6 := hid_of (show FS w wr g n c τ n (elN t k (t + 1) L) by rw [elN_skip]; exact F5.out)
                  have hz : ((t : Int) != (t : Int)) = false := by simp
                  go_wp2_with fail
                  go_roundw
                  case rel => exact ⟨t + 1, by omega, by go_num, F6, K5, B5⟩
                  case measure => simp [intOf]; omega
                · have hz : ((t : Int) != (r : Int)) = true := by rw [bne_iff_ne]; omega
                  have F5d := hid_of F5.out.drew
                  have d2 := F5.out.cell hrl (Nat.le_refl _)
                  have d3 := F5d.out.cell hrl (Nat.le_refl _)
                  have d4 := B5.out
                  have d5 : wr.drew.cell? ⟨bk, 0, none⟩ = some (.int .i64 (k : Nat)) := B5.out
                  have d6 := F5.out.byte htl hkc
                  have d7 := F5d.out.byte htl hkc
                  have h1 := (F5d.out.row t htl).2
                  have h2 := (F5d.out.row r hrl).2
                  rw [elN_self (.inl (Nat.le_refl _))] at d6 d7 h1
                  rw [elN_self (.inr rfl)] at h2
                  have hf := ML.out t k htl hkc
                  have hne : τ r ≠ τ t := fun q => e (F5.out.inj r t hrl htl q).symm
                  have HST := hid_of (elN_step (k := k) e L)
                  have H1 := hid_of h1
                  have H2 := hid_of h2
                  obtain ⟨f, hfe⟩ : ∃ f, L t k = f := ⟨_, rfl⟩
                  rw [hfe] at d6 d7 hf HST
                  have HNE := hid_of hne
                  clear h1 h2 hfe hne
                  go_wp2_with fail
                  go_region_with (go_at_call 68; refine (addRow_any (τ t) (τ r) c f (L t) (L r) _ hc hf HNE.out (fun j hj => ML.out t j htl hj) (fun j hj => ML.out r j hrl hj) H1.out H2.out).mono ?_; rintro e w6 ⟨⟨u, rfl⟩, hO⟩)
                  all_goals have F6 : Hid (FS w w6 g n c τ n (elN r k (t + 1) L)) := hid_of (by rw [← HST.out]; exact F5d.out.chg htl hO.chg)
                  all_goals have K6 := hid_of (K5.out.drew.trans ((Kp.chg (g := g) (ρ := τ) hO.chg htl).perm P3.out))
                  all_goals have B6 := hid_of ((hO.cell (p := ⟨bk, 0, none⟩) (by have := R3.out t htl; show bk ≠ τ t; omega)).trans d5)
                  all_goals clear hO
                  all_goals go_wp2_with fail
                  all_goals go_roundw
                  all_goals first
                    | (case rel => exact ⟨t + 1, by omega, by go_num, F6, K6, B6⟩)
                    | (simp [intOf]; omega)
              · have hte : t = n := by omega
                subst hte
                go_wp2_with fail
                go_roundw
                case rel => exact ⟨k + 1, τ, by omega, by go_num, by rw [HMM.out]; go_num, by rw [HMM.out]; exact F5, P3, K5⟩
                case measure => simp [intOf]; omega)
    · have hke : k = cols := by omega
      subst hke
      go_wp2_with fail
      go_ret
      exact ⟨rfl, ⟨σ, HF.out⟩, HK.out⟩
end Go.Proofs.Ytjpibfnkchbglab
