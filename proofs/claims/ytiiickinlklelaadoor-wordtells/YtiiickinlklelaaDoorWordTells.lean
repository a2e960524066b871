/- Proved: for every byte, word of sixteen bits and two texts the statement WordTells of the program answers true, with no condition but that the tables lie as the program's text lays them: all calls of package word answer just what the document's own calls answer, errors too. -/
import Derived.Test.YtiiickinlklelaaDoorTop
import Derived.BigRegion
import Derived.ShutString
import Derived.ChangeOld
import Derived.SizedLaws
namespace Go.Proofs.YtiiickinlklelaaDoor.wordTells
open Go.ChangeShapes Go.WideShapes Go.ChangeAt Go.RowKit Go.Shelf
open Go.ChangeMaps (open_string shut_string)
set_option linter.unusedVariables false
theorem own : ownKnob Tryd.prog.godebug = none := by kernel_rfl
theorem laidOut : laidOutB Tryd.prog = true := by kernel_rfl
theorem ret_true {b : Bool} (h : b = true) : Ending.returned (.bool b) = .returned (.bool true) := by rw [h]
set_option maxRecDepth 100000 in
set_option maxHeartbeats 2000000 in
theorem core (b X : Nat) (hb : b < 256) (hX : X < 65536) (s t P Q : ByteArray) (E K F : Int) (w : World) (hG : Gl w)
    (cw : ∀ W, Gl W → Calls Tryd.prog 5 #[.string s] W fun e w' => e = .returned (.tuple #[.string P, .int .i64 E]) ∧ Below W.heap.size W w')
    (cv : ∀ W, Calls Tryd.prog 8 #[.string s] W fun e w' => e = .returned (.tuple #[.string P, .int .i64 E]) ∧ Below W.heap.size W w')
    (cr : ∀ W, Gl W → Calls Tryd.prog 6 #[.string t] W fun e w' => e = .returned (.tuple #[.string Q, .int .i64 K, .int .i64 F]) ∧ Below W.heap.size W w')
    (cq : ∀ W, Calls Tryd.prog 9 #[.string t] W fun e w' => e = .returned (.tuple #[.string Q, .int .i64 K, .int .i64 F]) ∧ Below W.heap.size W w') :
    Calls Tryd.prog 3 #[.int .u8 b, .int .u16 X, .string s, .string t] w fun e w' => e = .returned (.bool true) ∧ Below w.heap.size w w' := by
  have HG := hid_of hG
  have h2 := hG.sz
  have c1 := hid_of (read_any X hX w hG)
  have c2 := hid_of cw
  have c3 := hid_of cr
  have c4 := hid_of (fun W => readWord_any X hX W)
  have c5 := hid_of cv
  have c6 := hid_of cq
  have c7 := hid_of (fun W (h : Gl W) => write_any b hb W h)
  have c8 := hid_of (fun W => wordOf_any b hb W)
  generalize Wd.wr b = V at *
  generalize Wd.rb X = r at *
  generalize rm X = m at *
  clear hG cw cr cv cq
  go_enter Tryd.func3, Tryd.ntmps3
  go_wp2_with fail
  refine c1.out.mono ?_
  rintro e w1 ⟨rfl, hb1⟩
  have B1 := hid_of hb1
  clear hb1
  go_wp2_with fail
  refine (c2.out _ (HG.out.below h2 B1.out)).mono ?_
  rintro e w2 ⟨rfl, hb2⟩
  have B2 := hid_of (B1.out.trans (hb2.mono B1.out.size))
  clear hb2
  go_wp2_with fail
  refine (c3.out _ (HG.out.below h2 B2.out)).mono ?_
  rintro e w3 ⟨rfl, hb3⟩
  have B3 := hid_of (B2.out.trans (hb3.mono B2.out.size))
  clear hb3
  go_wp2_with fail
  refine (c4.out _).mono ?_
  rintro e w4 ⟨rfl, hb4⟩
  have B4 := hid_of (B3.out.trans (hb4.mono B3.out.size))
  clear hb4
  go_wp2_with fail
  refine (c5.out _).mono ?_
  rintro e w5 ⟨rfl, hb5⟩
  have B5 := hid_of (B4.out.trans (hb5.mono B4.out.size))
  clear hb5
  go_wp2_with fail
  refine (c6.out _).mono ?_
  rintro e w6 ⟨rfl, hb6⟩
  have B6 := hid_of (B5.out.trans (hb6.mono B5.out.size))
  clear hb6
  go_wp2_with fail
  refine (begun_any _ (HG.out.below h2 B6.out)).mono ?_
  rintro e w7 ⟨rfl, hb7⟩
  have B7 := hid_of (B6.out.trans (hb7.mono B6.out.size))
  clear hb7
  go_wp2_with fail
  refine (c7.out _ (HG.out.below h2 B7.out)).mono ?_
  rintro e w8 ⟨rfl, hb8⟩
  have B8 := hid_of (B7.out.trans (hb8.mono B7.out.size))
  clear hb8
  go_wp2_with fail
  refine (c8.out _).mono ?_
  rintro e w9 ⟨rfl, hb9⟩
  have B9 := hid_of (B8.out.trans (hb9.mono B8.out.size))
  clear hb9
  go_wp2_with fail
  go_ret
  exact ⟨ret_true (by simp), B9.out⟩
/-- what WriteAll and the reference's answer of a text -/
theorem writes (s : ByteArray) : ∃ (P : ByteArray) (E : Int), (∀ W, Gl W → Calls Tryd.prog 5 #[.string s] W fun e w' => e = .returned (.tuple #[.string P, .int .i64 E]) ∧ Below W.heap.size W w') ∧
    (∀ W, Calls Tryd.prog 8 #[.string s] W fun e w' => e = .returned (.tuple #[.string P, .int .i64 E]) ∧ Below W.heap.size W w') := by
  by_cases h : s.size ≤ 64
  · exact ⟨_, _, fun W hG => writeAll_any s h W hG, fun W => wordsOf_any s h W⟩
  · refine ⟨mkS [], 2, fun W _ => (writeAll_long s (by omega) W).mono ?_, fun W => (wordsOf_long s (by omega) W).mono ?_⟩
    · rintro e w' ⟨he, rfl⟩; exact ⟨he, Below.refl _ _⟩
    · rintro e w' ⟨he, rfl⟩; exact ⟨he, Below.refl _ _⟩
theorem reads (t : ByteArray) : ∃ (Q : ByteArray) (K F : Int), (∀ W, Gl W → Calls Tryd.prog 6 #[.string t] W fun e w' => e = .returned (.tuple #[.string Q, .int .i64 K, .int .i64 F]) ∧ Below W.heap.size W w') ∧
    (∀ W, Calls Tryd.prog 9 #[.string t] W fun e w' => e = .returned (.tuple #[.string Q, .int .i64 K, .int .i64 F]) ∧ Below W.heap.size W w') := by
  by_cases h : t.size ≤ 128
  · by_cases ho : t.size % 2 = 1
    · refine ⟨mkS [], 0, 1, fun W _ => (readAll_odd t h ho W).mono ?_, fun W => (unwordsOf_odd t h ho W).mono ?_⟩
      · rintro e w' ⟨he, rfl⟩; exact ⟨he, Below.refl _ _⟩
      · rintro e w' ⟨he, rfl⟩; exact ⟨he, Below.refl _ _⟩
    · have hn : t.size = 2 * (t.size / 2) := by omega
      by_cases hbad : ∃ j, j < t.size / 2 ∧ Wd.rn (rws (bl t) j) = 0
      · refine ⟨mkS [], 0, 5, fun W hG => (readAll_any t (t.size / 2) hn (by omega) W hG).mono ?_, fun W => (unwordsOf_any t (t.size / 2) hn (by omega) W).mono ?_⟩
        · rintro e w' ⟨hb, ⟨_, he⟩ | ⟨hg, _⟩⟩
          · exact ⟨he, hb⟩
          · obtain ⟨j, hj, h0⟩ := hbad; exact absurd h0 (hg j hj)
        · rintro e w' ⟨hb, ⟨_, he⟩ | ⟨hg, _⟩⟩
          · exact ⟨he, hb⟩
          · obtain ⟨j, hj, h0⟩ := hbad; exact absurd h0 (hg j hj)
      · refine ⟨mkS (rtx (bl t) (t.size / 2)), rmd (bl t) (t.size / 2), 0, fun W hG => (readAll_any t (t.size / 2) hn (by omega) W hG).mono ?_, fun W => (unwordsOf_any t (t.size / 2) hn (by omega) W).mono ?_⟩
        · rintro e w' ⟨hb, ⟨hg, _⟩ | ⟨_, he⟩⟩
          · exact absurd hg hbad
          · exact ⟨he, hb⟩
        · rintro e w' ⟨hb, ⟨hg, _⟩ | ⟨_, he⟩⟩
          · exact absurd hg hbad
          · exact ⟨he, hb⟩
  · refine ⟨mkS [], 0, 2, fun W _ => (readAll_many t (by omega) W).mono ?_, fun W => (unwordsOf_many t (by omega) W).mono ?_⟩
    · rintro e w' ⟨he, rfl⟩; exact ⟨he, Below.refl _ _⟩
    · rintro e w' ⟨he, rfl⟩; exact ⟨he, Below.refl _ _⟩
theorem walk (a0 a1 : Int) (s t : ByteArray) (w : World) (w0 : (Lit.int .u8 a0).wf = true) (w1 : (Lit.int .u16 a1).wf = true) (w2 : s.size ≤ maxLen) (w3 : t.size ≤ maxLen) (hG : Gl w) :
    Calls Tryd.prog 3 #[.int .u8 a0, .int .u16 a1, .string s, .string t] w fun e w' => e = .returned (.bool true) ∧ Below w.heap.size w w' := by
  obtain ⟨p0, q0⟩ := bounds_u8 w0
  obtain ⟨p1, q1⟩ := bounds_u16 w1
  obtain ⟨b, rfl⟩ := Int.eq_ofNat_of_zero_le p0
  obtain ⟨X, rfl⟩ := Int.eq_ofNat_of_zero_le p1
  obtain ⟨P, E, cw, cv⟩ := writes s
  obtain ⟨Q, K, F, cr, cq⟩ := reads t
  exact core b X (by omega) (by omega) s t P Q E K F w hG cw cv cr cq

set_option maxRecDepth 100000 in
theorem lifted (os : Os) (started : os.Started) (H : Type) (enc : TypeId × Value → H) :
    ReturnsInHanded {} Tryd.checked os 3 .any (fun w args => (Rows.wordTellsSpec.pre enc Tryd.prog Tryd.f3 [] false w args ∧ laidMetH Tryd.prog laid2 w) ∧ sizedMet enc Tryd.prog Tryd.f3 (OpenSpec.ofChange Rows.wordTellsSpec) false w args)
      (Rows.wordTellsSpec.post enc Tryd.prog Tryd.f3 false true false false) := by
  refine returnsInHanded_of_change_and (C := Tryd.checked) (X := fun w _ => laidMetH Tryd.prog laid2 w) (fun _ _ _ hh h => h.of_heap hh) own started (by kernel_rfl) Tryd.func3
    (ChangeSpec.witness_shaped (enc := enc) (C := Tryd.checked) (os := os) (X := fun w _ => laidMetH Tryd.prog laid2 w) false (World.doorLaid Tryd.prog 400 os) #[.int .u8 0, .int .u16 0, .string ⟨#[]⟩, .string ⟨#[]⟩] 8 rfl (World.shaped_of_RefB (by kernel_rfl) (by kernel_rfl)) (by kernel_rfl) (by kernel_rfl) (by kernel_rfl) (door_met os _)) ?_
  intro W base args ds gs before hval0 hW _ hsz0 hL _
  have hsz : (DataW.weightsEach Tryd.prog (Tryd.f3.params.toList ++ Rows.wordTellsSpec.plain.varTypes Tryd.prog) (ds ++ gs)).all (· ≤ reachBytes) = true := hsz0
  clear hsz0
  have hval : ∀ (j : Nat) t v, Tryd.f3.params[j]? = some t → args[j]? = some v → Value.okWide Tryd.prog W .any base t v := hval0
  have hW' := hW
  obtain ⟨p, q, hA0, hV, rfl, hfz, hnd⟩ := hW
  have hA : DataW.TrodAll enc Tryd.prog W 0 (fun _ => true) true Tryd.f3.params.toList args.toList ds p := hA0
  rw [Tryd.params3] at hA hval hsz
  obtain ⟨v0, vs0, d0, ds0, p0, q0, hargs, rfl, rfl, h0, r0⟩ := trodAll_cons hA
  obtain ⟨v1, vs1, d1, ds1, p1, q1, rfl, rfl, rfl, h1, r1⟩ := trodAll_cons r0
  obtain ⟨v2, vs2, d2, ds2, p2, q2, rfl, rfl, rfl, h2, r2⟩ := trodAll_cons r1
  obtain ⟨v3, vs3, d3, ds3, p3, q3, rfl, rfl, rfl, h3, r3⟩ := trodAll_cons r2
  obtain ⟨rfl, rfl, rfl⟩ := trodAll_nil r3
  obtain rfl : args = #[v0, v1, v2, v3] := by cases args; simp_all
  obtain ⟨rfl, rfl⟩ := trodVars_none hV
  obtain ⟨x0, rfl, rfl, rfl, w0⟩ := open_int Tryd.underlying5 (hval 0 5 v0 rfl rfl) h0
  obtain ⟨x1, rfl, rfl, rfl, w1⟩ := open_int Tryd.underlying22 (hval 1 22 v1 rfl rfl) h1
  obtain ⟨x2, rfl, rfl, rfl, w2⟩ := open_string Tryd.underlying9 (hval 2 9 v2 rfl rfl) h2
  obtain ⟨x3, rfl, rfl, rfl, w3⟩ := open_string Tryd.underlying9 (hval 3 9 v3 rfl rfl) h3
  clear hA0 hval0
  simp only [List.append_nil] at hW'
  refine (walk x0 x1 x2 x3 W w0 w1 w2 w3 (of_laid hL)).mono fun e W' ⟨he, bel⟩ => ?_
  subst he
  exact ⟨_, rfl, _, _, _, [], [], [], hW', trodAll_mk1 (shut_bool Tryd.underlying4 _), (trodAll_cons_mk (shut_int Tryd.underlying5 w0) (trodAll_cons_mk (shut_int Tryd.underlying22 w1) (trodAll_cons_mk (shut_string Tryd.underlying9 w2) (trodAll_cons_mk (shut_string Tryd.underlying9 w3) trodAll_mk0)))), rfl, bel.frame _, fun h => by cases h⟩
theorem over : Rows.WordTellsSaid :=
  OpenClaim.holds_of_wide 3 Tryd.f3 rfl rfl rfl rfl rfl rfl rfl ⟨rfl, rfl, rfl, rfl, rfl⟩ rfl rfl rfl rfl rfl (by kernel_rfl) Tryd.func3 (by kernel_rfl)
    (of_decide_eq_true (by kernel_rfl)) (by unfold Func.isWrapper; first | (rw [if_pos (by decide +kernel)]; kernel_rfl) | (rw [if_neg (by decide +kernel)]; exact ⟨rfl, rfl⟩))
    (fun os started H enc _ => lifted os started H enc)
/-- THE TIED CARD -/
theorem proved : Rows.WordTellsCardSaid :=
  Claim7.holds_tied_plain_at .later [] [.data, .data] true (true, "5c0d9dd1e2077b467c0cde284cab1011be5d6acce4e056112c6612a2542d4304") false
    over (fun _ h => by cases h) (by kernel_rfl) (fun _ h => by cases h) wordTells_row_tie rfl ⟨rfl, rfl⟩ (by kernel_rfl) rfl
    (fun f fn hf hfn => by
      obtain rfl : f = 3 := Option.some.inj ((show Tryd.prog.funcNamed "supercargo/supercargolaw.WordTells" = some 3 by kernel_rfl).symm.trans hf) |>.symm
      obtain rfl : fn = Tryd.f3 := (Option.some.inj (Tryd.func3.symm.trans hfn)).symm
      exact ⟨by kernel_rfl, fun j t ht => by
        rw [Tryd.params3] at ht
        have hm : t ∈ [5, 22, 9, 9] := by simpa using Array.mem_of_getElem? ht
        have hall : ([5, 22, 9, 9].all fun u => !Tryd.prog.wantsStandIn u) = true := by kernel_rfl
        exact (show Tryd.prog.wantsStandIn t = false by simpa using List.all_eq_true.1 hall t hm)⟩)
    (by kernel_rfl)
#print axioms proved
end Go.Proofs.YtiiickinlklelaaDoor.wordTells
