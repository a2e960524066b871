/- Hear of the reference: its contract; Begin of the reference is the program's (bids). -/
import Derived.Test.YtbmbnbhedalcnabPm
namespace Go.Proofs.Ytbmbnbhedalcnab
open Go.RowKit
def aHr : List CA → Prop
  | [_, _, _, .val (.agg ⟨[_, _, _, _, _, _, _, .int _ hd]⟩), _] => (Lit.int .u64 hd).wf = true
  | _ => False
theorem num_out {no : Int} : x_num no = false ↔ (no < 0 ∨ no > 30) := by
  unfold x_num
  by_cases h1 : no < 0
  · have : ¬ 0 ≤ no := by omega
    simp [h1, this]
  · have h2 : 0 ≤ no := by omega
    by_cases h3 : no > 30
    · have : ¬ no < 31 := by omega
      simp [h2, h3, this]
    · have : no < 31 := by omega
      simp [h1, h2, h3, this]
theorem bchk_out {a p : Int} {o v : ByteArray} {t w : Int} {s : ByteArray} {hd : Int} {m : Nat} {g : Nat → List Value} {need no : Int} (h : no < 0 ∨ no > 30) : x_bchk a p o v t w s hd m g need no = 3 := by
  unfold x_bchk
  rw [num_out.2 h]
  rfl
theorem bchk_in {a p : Int} {o v : ByteArray} {t w : Int} {s : ByteArray} {hd : Int} {m : Nat} {g : Nat → List Value} {need no : Int} (h : ¬ (no < 0 ∨ no > 30)) : x_bchk a p o v t w s hd m g need no = x_cbid m g need a p o v t w s hd := by
  have e : x_num no = true := by
    cases e : x_num no with
    | true => rfl
    | false => exact absurd (num_out.1 e) h
  unfold x_bchk
  rw [e]
  rfl
theorem f_rbhear : FOk K34.P 16 (listF [.agg [.rows wtK, .val], .one .val, .one .val, .one .val] [.agg [.val, .val, .val, .val, .val, .val, .val, .val], .one .val, .one .val] aHr g_hear) := list_f K34_ok Try.func16 rfl rfl (no_loops rfl) fun cas rs hb hk ha h => by
  unfold g_hear at h
  split at h
  · rename_i sh0 m g need no a p o v t w s hd k bd n x y z
    have e0 := kind_rows (i := 0) hk rfl rfl
    have hbm := bnd_rows (i := 0) hb rfl
    subst e0
    have hw : (Lit.int .u64 hd).wf = true := ha
    cases h
    show (evR K34 noL _ [.agg ⟨[.slice (some ⟨0, 0, some 0⟩) m m, .int .i64 need]⟩, .int .i64 no, .agg ⟨[.int .i64 a, .int .i64 p, .string o, .string v, .int .i64 t, .int .i64 w, .string s, .int .u64 hd]⟩, .agg ⟨[.int .i64 k, .int .i64 bd, .int .i64 n, .int .i64 x, .int .i64 y, .string z]⟩] [.recs wtK m g] [.agg [.val, .val, .val, .val, .val, .val, .val, .val], .one .val, .one .val] [.val (.int .i64 (bR m g need no a p o v t w s hd k bd n x y z).a), .val (.int .i64 (bR m g need no a p o v t w s hd k bd n x y z).p), .val (.string (bR m g need no a p o v t w s hd k bd n x y z).o), .val (.string (bR m g need no a p o v t w s hd k bd n x y z).v), .val (.int .i64 (bR m g need no a p o v t w s hd k bd n x y z).t), .val (.int .i64 (bR m g need no a p o v t w s hd k bd n x y z).w), .val (.string (bR m g need no a p o v t w s hd k bd n x y z).s), .val (.int .u64 (bR m g need no a p o v t w s hd k bd n x y z).hd), .rows 29 vtK (bR m g need no a p o v t w s hd k bd n x y z).n8 (bR m g need no a p o v t w s hd k bd n x y z).g8, .val (.int .i64 (bR m g need no a p o v t w s hd k bd n x y z).e)]).sat _
    rw [run_rbhear, rcbid_eq hw, rcv_eq]
    have err : ∀ e : Int, (x_bchk a p o v t w s hd m g need no != 0) = true → x_bchk a p o v t w s hd m g need no = e → (errB (bR m g need no a p o v t w s hd k bd n x y z) e).sat fun _ _ => True := fun e h1 h2 => by
      have er : bR m g need no a p o v t w s hd k bd n x y z = ⟨0, 0, zS, zS, 0, 0, zS, 0, 0, nil8, e⟩ := by rw [bR_eq]; unfold bV; rw [h1, h2]; rfl
      exact leafB_ok er (noB_ok (by rw [er]))
    refine sat_tst (fun c1 => ?_) fun c1 => sat_tst (fun c2 => ?_) fun c2 => ?_
    · have e := bchk_out (a := a) (p := p) (o := o) (v := v) (t := t) (w := w) (s := s) (hd := hd) (m := m) (g := g) (need := need) (.inl (of_decide_eq_true c1))
      exact err 3 (by rw [e]; rfl) e
    · have e := bchk_out (a := a) (p := p) (o := o) (v := v) (t := t) (w := w) (s := s) (hd := hd) (m := m) (g := g) (need := need) (.inr (of_decide_eq_true c2))
      exact err 3 (by rw [e]; rfl) e
    · have hno : ¬ (no < 0 ∨ no > 30) := fun h => by
        rcases h with h | h
        · exact of_decide_eq_false c1 h
        · exact of_decide_eq_false c2 h
      have eb := bchk_in (a := a) (p := p) (o := o) (v := v) (t := t) (w := w) (s := s) (hd := hd) (m := m) (g := g) (need := need) hno
      rw [← eb]
      refine sat_ask ⟨Nat.le_refl _, hbm⟩ (sat_tst (fun h0 => sat_tst (fun h1 => ?_) fun h1 => restB_ok hw hbm (eq_of_beq h0) (eq_of_bne h1) bR_eq) fun h0 => sat_tst (fun h1 => err _ h1 rfl) fun h1 => ?_)
      · have er : bR m g need no a p o v t w s hd k bd n x y z = ⟨0, 0, zS, zS, 0, 0, zS, 0, 0, nil8, x_cvote k bd n x y z⟩ := by
          rw [bR_eq]; unfold bV; rw [show (x_bchk a p o v t w s hd m g need no != 0) = false from by rw [eq_of_beq h0]; rfl, h1]; rfl
        exact leafB_ok er (noB_ok (by rw [er]))
      · have := eq_of_bne h1
        rw [this] at h0
        cases h0
  · cases h
noncomputable def K35 : Kn := K34.addF 16 (listF [.agg [.rows wtK, .val], .one .val, .one .val, .one .val] [.agg [.val, .val, .val, .val, .val, .val, .val, .val], .one .val, .one .val] aHr g_hear)
theorem K35_ok : K35.Ok := K34_ok.addF f_rbhear
theorem K35_P : K35.P = Try.prog := rfl
end Go.Proofs.Ytbmbnbhedalcnab
