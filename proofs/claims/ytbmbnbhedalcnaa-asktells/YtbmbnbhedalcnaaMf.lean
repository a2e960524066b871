/- Messages to all nodes, lists of messages, by symbolic runs. -/
import Derived.Test.YtbmbnbhedalcnaaMf0
namespace Go.Proofs.Ytbmbnbhedalcnaa
open Go.RowKit
abbrev alS (m : Nat) (kd i : Int) : List Value := [.int .i64 kd, .pointer (some ⟨1, 0, none⟩), .pointer (some ⟨2, 0, none⟩), .slice (some ⟨3, 0, some 0⟩) m m, .slice (some ⟨3, 0, some 0⟩) m m, .int .i64 m, .int .i64 i]
abbrev alH (m T1 T2 : Nat) (op kk p t w hd need x y : Int) (d s z : ByteArray) (g G : Nat → List Value) : List AObj := [.recs wtK m g, .cells T1 (clC op kk p d t w s hd m need), .cells T2 [.int .i64 x, .int .i64 y, .string z], .row 40 msK m G]
theorem run_allB (m k T1 T2 : Nat) (op kk p t w hd need kd x y : Int) (d s z : ByteArray) (g G : Nat → List Value) : ev K17 noL (bodyOf Try.f29 0) ⟨mkSlots 31 [1, 3, 5, 7, 14, 15, 16] (alS m kd k), alH m T1 T2 op kk p t w hd need x y d s z g G⟩ (pkG 31 keepAll 4) =
    tst (decide ((↑k : Int) < (↑m : Int))) (Out.ask ((0 : Int) ≤ (↑k : Int) ∧ (↑k : Int) < (↑m : Int)) (Out.ask (k < m) (Out.done .normal ⟨someL (alS m kd (IntKind.wrap IntKind.i64 ((↑k : Int) + (1 : Int)))), alH m T1 T2 op kk p t w hd need x y d s z g (updG G k (toC kd op x y z k))⟩)))
      (Out.done (.exit 0) ⟨someL [.slice (some ⟨3, 0, some 0⟩) m m], alH m T1 T2 op kk p t w hd need x y d s z g G⟩) := by kernel_rfl
theorem loop_all : LOk K17.P (bodyOf Try.f29 0) (lspec 31 keepAll 4 gAllL) := lspec_ok K17_ok (L := noL) (fun c' _ F h => by cases h) fun Φ vs H kk hm0 h => by
  unfold gAllL at h
  split at h
  · rename_i kd l1 c1 l2 c2 n i sh m0 g T1 op k p d t w s hd l3 m need T2 x y z e sh2 m2 G
    split at h
    · rename_i hsh
      rw [Bool.and_eq_true, Bool.and_eq_true, Nat.beq_eq] at hsh
      obtain ⟨⟨hs1, hs2⟩, rfl⟩ := hsh
      have := shEq_eq hs1
      subst this
      have := shEq_eq hs2
      subst this
      obtain ⟨⟨rfl, rfl, rfl, rfl, rfl, rfl, rfl, rfl, rfl, hb, rfl⟩, h⟩ := h
      refine ⟨{j : Nat // j ≤ m2}, fun i => alS m2 kd i.1, fun i => alH m2 T1 T2 op k p t w hd need x y d s z g (rG (toC kd op x y z) mgZ i.1), fun i => m2 - i.1, ⟨0, by omega⟩, rfl, rfl, ?_⟩
      rintro ⟨j, hj⟩
      show (ev K17 noL _ ⟨mkSlots 31 [1, 3, 5, 7, 14, 15, 16] (alS m2 kd j), alH m2 T1 T2 op k p t w hd need x y d s z g (rG (toC kd op x y z) mgZ j)⟩ (pkG 31 keepAll 4)).sat _
      rw [run_allB]
      refine sat_tst (fun ht => ?_) (fun ht => ?_)
      · have hlt : j < m2 := by have := of_decide_eq_true ht; omega
        refine sat_ask ⟨by omega, by omega⟩ (sat_ask hlt ?_)
        refine ⟨⟨j + 1, by omega⟩, ?_, rfl, by show m2 - (j + 1) < m2 - j; omega⟩
        rw [wrap_at hlt (by omega)]
      · have hge : j = m2 := by have := of_decide_eq_false ht; omega
        subst hge
        exact ⟨_, rfl, h⟩
    · exact h.elim
  · exact h.elim
theorem lAll_ok : ∀ F, lAll (key (bodyOf Try.f29 0)) = some F → LOk K17.P (bodyOf Try.f29 0) F := fun F h => by
  have hk : lAll (key (bodyOf Try.f29 0)) = some (lspec 31 keepAll 4 gAllL) := by kernel_rfl
  rw [hk] at h
  cases h
  exact loop_all
theorem run_all (m : Nat) (op kk p t w hd need kd x y : Int) (d s z : ByteArray) (g : Nat → List Value) : evR K17 lAll Try.f29 [.agg ⟨clC op kk p d t w s hd m need⟩, .int .i64 kd, .agg ⟨[.int .i64 x, .int .i64 y, .string z]⟩] [.recs wtK m g] [.one .val] [.rows 40 msK m (toC kd op x y z)] =
    Out.ask ((0 : Int) ≤ (m : Int) ∧ (m : Int) ≤ (m : Int) ∧ ((56 : Nat) : Int) * (m : Int) ≤ 281474976710656 ∧ (m : Int) ≤ 9223372036854775807) (Out.ask (m = m ∧ m = m ∧ m = m ∧ m = m ∧ m = m ∧ m = m ∧ m = m ∧ (m : Int) = (m : Int) ∧ (0 : Int) = 0 ∧ m ≤ 12 ∧ (fun _ => mgZ) = fun (_ : Nat) => mgZ)
      (Out.ask (m = m ∧ m ≤ m ∧ ∀ j, j < m → norm msK (rG (toC kd op x y z) mgZ m j) = norm msK (toC kd op x y z j)) (Out.done .ret ⟨[], []⟩))) := by kernel_rfl
theorem f_all : FOk K17.P 29 (listF [clK, vK, vK] [.one .val] aAll gAll) := list_f K17_ok Try.func29 rfl rfl (one_loop (by kernel_rfl) lAll_ok) fun cas rs hb hk ha h => by
  unfold gAll at h
  split at h
  · rename_i op kk p d t w s hd sh0 m g need kd x y z
    have := kind_rows (i := 8) hk rfl rfl
    subst this
    have ha : m ≤ 12 := ha
    cases h
    show (evR K17 lAll _ [.agg ⟨clC op kk p d t w s hd m need⟩, .int .i64 kd, .agg ⟨[.int .i64 x, .int .i64 y, .string z]⟩] [.recs wtK m g] [.one .val] _).sat _
    rw [run_all]
    exact sat_ask ⟨by omega, by omega, by omega, by omega⟩ (sat_ask ⟨rfl, rfl, rfl, rfl, rfl, rfl, rfl, rfl, rfl, ha, rfl⟩ (sat_ask ⟨rfl, Nat.le_refl _, fun j hj => by rw [rG_at _ _ hj]⟩ sat_end))
  · cases h
theorem K17a_ok : (K17.addF 29 (listF [clK, vK, vK] [.one .val] aAll gAll)).Ok := K17_ok.addF f_all
theorem run_svB (m m2 k : Nat) (g h : Nat → List Value) : ev K17 noL (bodyOf Try.f19 0) ⟨mkSlots 26 [0, 1, 5] [.slice (some ⟨0, 0, some 0⟩) m m, .slice (some ⟨1, 0, some 0⟩) m2 m2, .int .i64 k], [.recs msK m g, .recs msK m2 h]⟩ (pkG 26 keepSV 2) = tst (decide ((↑k : Int) < (↑m : Int))) (Out.ask ((0 : Int) ≤ (↑k : Int) ∧ (↑k : Int) < (↑m : Int)) (Out.ask (k < m) (Out.ask ((0 : Int) ≤ (↑k : Int) ∧ (↑k : Int) < (↑m2 : Int)) (Out.ask (k < m2) (tst (bif false then decide (intV (hdV (g (Int.toNat (↑k : Int) + (0 : Nat)))) = intV (hdV (h (Int.toNat (↑k : Int) + (0 : Nat)))) ∧ intV (hdV (tlV (g (Int.toNat (↑k : Int) + (0 : Nat))))) = intV (hdV (tlV (h (Int.toNat (↑k : Int) + (0 : Nat))))) ∧ intV (hdV (tlV (tlV (g (Int.toNat (↑k : Int) + (0 : Nat)))))) = intV (hdV (tlV (tlV (h (Int.toNat (↑k : Int) + (0 : Nat)))))) ∧ intV (hdV (tlV (tlV (tlV (g (Int.toNat (↑k : Int) + (0 : Nat))))))) = intV (hdV (tlV (tlV (tlV (h (Int.toNat (↑k : Int) + (0 : Nat))))))) ∧ intV (hdV (tlV (tlV (tlV (tlV (g (Int.toNat (↑k : Int) + (0 : Nat)))))))) = intV (hdV (tlV (tlV (tlV (tlV (h (Int.toNat (↑k : Int) + (0 : Nat)))))))) ∧ strV (hdV (tlV (tlV (tlV (tlV (tlV (g (Int.toNat (↑k : Int) + (0 : Nat))))))))) = strV (hdV (tlV (tlV (tlV (tlV (tlV (h (Int.toNat (↑k : Int) + (0 : Nat)))))))))) else !decide (intV (hdV (g (Int.toNat (↑k : Int) + (0 : Nat)))) = intV (hdV (h (Int.toNat (↑k : Int) + (0 : Nat)))) ∧ intV (hdV (tlV (g (Int.toNat (↑k : Int) + (0 : Nat))))) = intV (hdV (tlV (h (Int.toNat (↑k : Int) + (0 : Nat))))) ∧ intV (hdV (tlV (tlV (g (Int.toNat (↑k : Int) + (0 : Nat)))))) = intV (hdV (tlV (tlV (h (Int.toNat (↑k : Int) + (0 : Nat)))))) ∧ intV (hdV (tlV (tlV (tlV (g (Int.toNat (↑k : Int) + (0 : Nat))))))) = intV (hdV (tlV (tlV (tlV (h (Int.toNat (↑k : Int) + (0 : Nat))))))) ∧ intV (hdV (tlV (tlV (tlV (tlV (g (Int.toNat (↑k : Int) + (0 : Nat)))))))) = intV (hdV (tlV (tlV (tlV (tlV (h (Int.toNat (↑k : Int) + (0 : Nat)))))))) ∧ strV (hdV (tlV (tlV (tlV (tlV (tlV (g (Int.toNat (↑k : Int) + (0 : Nat))))))))) = strV (hdV (tlV (tlV (tlV (tlV (tlV (h (Int.toNat (↑k : Int) + (0 : Nat))))))))))) (Out.done AE.ret { slots := [some (Value.bool false)], heap := [AObj.recs msK m g, AObj.recs msK m2 h] }) (Out.done AE.normal { slots := [some (Value.slice (some { block := (0 : Nat), off := (0 : Nat), spot := some (0 : Nat) }) m m), some (Value.slice (some { block := (1 : Nat), off := (0 : Nat), spot := some (0 : Nat) }) m2 m2), some (Value.int IntKind.i64 (IntKind.wrap IntKind.i64 ((↑k : Int) + (1 : Int))))], heap := [AObj.recs msK m g, AObj.recs msK m2 h] })))))) (Out.done (AE.exit (0 : Nat)) { slots := [], heap := [AObj.recs msK m g, AObj.recs msK m2 h] }) := by kernel_rfl
theorem run_sv (m m2 : Nat) (g h : Nat → List Value) : evV K17 lSV Try.f19 [.slice (some ⟨0, 0, some 0⟩) m m, .slice (some ⟨1, 0, some 0⟩) m2 m2] [.recs msK m g, .recs msK m2 h] = tst ((↑m : Int) != (↑m2 : Int)) (Out.done AE.ret { slots := [some (Value.bool false)], heap := [] }) (Out.ask (m = m ∧ m = m ∧ m2 = m2 ∧ m2 = m2 ∧ m = m2 ∧ (0 : Int) = (0 : Int) ∧ m ≤ (140737488355328 : Nat)) (tst (sameN g h m) (Out.done AE.ret { slots := [some (Value.bool true)], heap := [] }) (Out.done AE.ret { slots := [some (Value.bool false)], heap := [] }))) := by kernel_rfl
theorem loop_sv : LOk K17.P (bodyOf Try.f19 0) (lspec 26 keepSV 2 gSVL) := lspec_ok K17_ok (L := noL) (fun c' _ F h => by cases h) fun Φ vs H k hm0 h => by
  unfold gSVL at h
  split at h
  · rename_i l c l2 c2 i sh m g sh2 m2 hh
    split at h
    · rename_i hsh
      rw [Bool.and_eq_true] at hsh
      have e1 := shEq_eq hsh.1
      have e2 := shEq_eq hsh.2
      subst e1
      subst e2
      obtain ⟨⟨rfl, rfl, rfl, rfl, rfl, rfl, hb⟩, h⟩ := h
      refine ⟨{j : Nat // j ≤ c ∧ sameN g hh j = true}, fun i => [.slice (some ⟨0, 0, some 0⟩) c c, .slice (some ⟨1, 0, some 0⟩) c c, .int .i64 i.1], fun _ => [.recs msK c g, .recs msK c hh], fun i => c - i.1, ⟨0, by omega, rfl⟩, rfl, rfl, ?_⟩
      rintro ⟨j, hj, hz⟩
      show (ev K17 noL _ ⟨mkSlots 26 [0, 1, 5] [.slice (some ⟨0, 0, some 0⟩) c c, .slice (some ⟨1, 0, some 0⟩) c c, .int .i64 j], [.recs msK c g, .recs msK c hh]⟩ (pkG 26 keepSV 2)).sat _
      rw [run_svB]
      refine sat_tst (fun ht => ?_) (fun ht => ?_)
      · have hlt : j < c := by have := of_decide_eq_true ht; omega
        refine sat_ask ⟨by omega, by omega⟩ (sat_ask hlt (sat_ask ⟨by omega, by omega⟩ (sat_ask hlt (sat_tst (fun hc => ?_) (fun hc => ?_)))))
        · have hc' : (!vEq g hh j) = true := hc
          have hv : vEq g hh j = false := by simpa using hc'
          rw [sameN_at hlt hv] at h
          exact ⟨_, rfl, h⟩
        · have hc' : (!vEq g hh j) = false := hc
          have hv : vEq g hh j = true := by simpa using hc'
          refine ⟨⟨j + 1, by omega, by show (sameN g hh j && vEq g hh j) = true; rw [hz, hv]; rfl⟩, ?_, rfl, by show c - (j + 1) < c - j; omega⟩
          show [some _, some _, some (Value.int .i64 _)] = [some _, some _, some (Value.int .i64 _)]
          rw [wrap_at hlt (by omega)]
      · have hge : j = c := by have := of_decide_eq_false ht; omega
        subst hge
        rw [hz] at h
        exact ⟨_, rfl, h⟩
    · exact h.elim
  · exact h.elim
theorem lSV_ok : ∀ F, lSV (key (bodyOf Try.f19 0)) = some F → LOk K17.P (bodyOf Try.f19 0) F := fun F h => by
  have hk : lSV (key (bodyOf Try.f19 0)) = some (lspec 26 keepSV 2 gSVL) := by kernel_rfl
  rw [hk] at h
  cases h
  exact loop_sv
theorem q_sv : QOk K17.P 19 (listC [.one (.rows msK), .one (.rows msK)] gSV) := list_q K17_ok Try.func19 rfl rfl (one_loop (by kernel_rfl) lSV_ok) fun cas r hb hk h => by
  unfold gSV at h
  split at h
  · rename_i sh m g sh2 m2 hh
    obtain ⟨rfl, rfl, -⟩ := hk
    obtain ⟨hb, -, -⟩ := hb
    cases h
    refine ⟨rfl, ?_⟩
    show (evV K17 lSV _ [.slice (some ⟨0, 0, some 0⟩) m m, .slice (some ⟨1, 0, some 0⟩) m2 m2] [.recs msK m g, .recs msK m2 hh]).sat _
    rw [run_sv]
    refine sat_tst (fun hn => ?_) (fun hn => ?_)
    · have hn : m ≠ m2 := by have hn : ((m : Int) != (m2 : Int)) = true := hn; intro e; rw [e] at hn; simp at hn
      have e : Nat.beq m m2 = false := by
        cases e' : Nat.beq m m2 with
        | false => rfl
        | true => exact absurd (Nat.eq_of_beq_eq_true e') hn
      rw [e]
      exact leaf_v rfl
    · have hn : m = m2 := by
        have hn : ((m : Int) != (m2 : Int)) = false := hn
        have hn : (m : Int) = (m2 : Int) := by simpa using hn
        omega
      subst hn
      have e : Nat.beq m m = true := Nat.beq_refl m
      rw [e]
      refine sat_ask ⟨rfl, rfl, rfl, rfl, rfl, rfl, hb⟩ (sat_tst (fun hs => ?_) (fun hs => ?_))
      · rw [hs]; exact leaf_v rfl
      · rw [hs]; exact leaf_v rfl
  · cases h
theorem q_sv' : QOk (K17.addF 29 (listF [clK, vK, vK] [.one .val] aAll gAll)).P 19 (listC [.one (.rows msK), .one (.rows msK)] gSV) := q_sv
theorem K18_ok : K18.Ok := K17a_ok.addQ q_sv'
end Go.Proofs.Ytbmbnbhedalcnaa
