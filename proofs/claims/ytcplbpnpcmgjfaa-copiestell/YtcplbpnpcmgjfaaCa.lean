/- Copies: Check; boxes and lists of copies. -/
import Derived.Test.YtcplbpnpcmgjfaaSb
namespace Go.Proofs.Ytcplbpnpcmgjfaa
open Go.ChangeShapes Go.WideShapes Go.ChangeAt Go.RowKit Go.Shelf
/-- a copy -/
abbrev Cp := St × ByteArray
/-- a copy as a value -/
def cv (c : Cp) : Value := .agg #[.int .i64 c.1.1, .int .i64 c.1.2, .string c.2]
/-- the copy of nothing -/
def cz : Cp := ((0, 0), ⟨#[]⟩)
/-- what Check answers -/
def cck (c : Cp) : Int := if sck c.1 = 0 then (if 64 < c.2.size then 2 else 0) else sck c.1
theorem cck_or (c : Cp) : cck c = 0 ∨ cck c = 2 ∨ cck c = 3 := by
  unfold cck
  rcases sck_or c.1 with h | h
  · rw [if_pos h]
    split
    · exact .inr (.inl rfl)
    · exact .inl rfl
  · rw [if_neg (by rw [h]; decide), h]
    exact .inr (.inr rfl)
theorem checkS_at (t u : Int) (w : World) : Calls Try.prog 14 #[.agg #[.int .i64 t, .int .i64 u]] w fun e w' => e = .returned (.int .i64 (sck (t, u))) ∧ Below w.heap.size w w' := check_any (t, u) w
theorem lessS_at (t u t' u' : Int) (w : World) : Calls Try.prog 16 #[.agg #[.int .i64 t, .int .i64 u], .agg #[.int .i64 t', .int .i64 u']] w fun e w' => e = .returned (.bool (slt (t, u) (t', u'))) ∧ Below w.heap.size w w' := less_any (t, u) (t', u') w
/-- a wrapper that nothing opens by itself -/
structure QW (p : Prop) : Prop where
  out : p
theorem qw_step {P : Program} {ops : Array Oper} {C : World → Prop} {Q : Act → Prop} {a : Act} {o : Oper} {rest : List Oper}
    (h : ∀ K : Act → Prop, (∀ a, QW (wpQuiet P ops C Q rest a) → K a) → if Region.wanted o (yielded ops a.tmps) then o.quiet P a C K else K (a.put o.dst undef)) : QW (wpQuiet P ops C Q (o :: rest) a) :=
  ⟨wpQuiet_step (fun K hK => h K (fun a q => hK a q.out))⟩
theorem qw_nil {P : Program} {ops : Array Oper} {C : World → Prop} {Q : Act → Prop} {a : Act} (h : Q a) : QW (wpQuiet P ops C Q [] a) := ⟨wpQuiet_nil h⟩
theorem new1 (w : World) (A : Obj) : ∃ W, w.alloc A = W ∧ Below w.heap.size w W ∧ W.heap[w.heap.size]? = some A ∧ W.heap.size = w.heap.size + 1 := ⟨_, rfl, below_new _ _, heap_new _ _, size_new _ _⟩
theorem new2 (w : World) (A B : Obj) : ∃ W, (w.alloc A).alloc B = W ∧ Below w.heap.size w W ∧ W.heap[w.heap.size]? = some A ∧ W.heap[w.heap.size + 1]? = some B ∧ W.heap.size = w.heap.size + 2 := by
  refine ⟨_, rfl, below_new2 _ _ _, heap_old (heap_new _ _) _, heap_at _ _ (size_new _ _), ?_⟩
  rw [size_new, size_new]
theorem new3 (w : World) (A B C : Obj) : ∃ W, ((w.alloc A).alloc B).alloc C = W ∧ Below w.heap.size w W ∧ W.heap[w.heap.size]? = some A ∧ W.heap[w.heap.size + 1]? = some B ∧ W.heap[w.heap.size + 1 + 1]? = some C ∧ W.heap.size = w.heap.size + 3 := by
  obtain ⟨W, hW, h1, h2, h3, h4⟩ := new2 w A B
  rw [hW]
  exact ⟨_, rfl, h1.trans ((below_new _ _).mono h1.size), heap_old h2 _, heap_old h3 _, heap_at _ _ h4, by rw [size_new, h4]⟩
theorem cells3 {w : World} {b T : Nat} {x y z : Value} (h : w.heap[b]? = some (.cells #[x, y, z] T)) : w.cell? ⟨b, 0, none⟩ = some x ∧ w.cell? ⟨b, 1, none⟩ = some y ∧ w.cell? ⟨b, 2, none⟩ = some z := by
  simp [World.cell?, h]
/-- block b is a box that holds a copy -/
def Bc (w : World) (b : Nat) (c : Cp) : Prop := w.heap[b]? = some (.cells #[.int .i64 c.1.1, .int .i64 c.1.2, .string c.2] 37)
theorem Bc.below {w w' : World} {b n : Nat} {p : Cp} (h : Bc w b p) (hb : Below n w w') (hn : b < n) : Bc w' b p := (hb.block b hn).trans h
theorem Bc.cells {w : World} {b : Nat} {c : Cp} (h : Bc w b c) : w.cell? ⟨b, 0, none⟩ = some (.int .i64 c.1.1) ∧ w.cell? ⟨b, 1, none⟩ = some (.int .i64 c.1.2) ∧ w.cell? ⟨b, 2, none⟩ = some (.string c.2) := cells3 h
theorem Bc.lt {w : World} {b : Nat} {p : Cp} (h : Bc w b p) : b < w.heap.size := heap_lt h
/-- what a copy's box is behind a store -/
def putC (w : World) (b : Nat) (c : Cp) : World := ((w.setCell ⟨b, 0, none⟩ (.int .i64 c.1.1)).setCell ⟨b, 1, none⟩ (.int .i64 c.1.2)).setCell ⟨b, 2, none⟩ (.string c.2)
theorem Bc.put {w : World} {b : Nat} {p : Cp} (h : Bc w b p) (q : Cp) : Bc (putC w b q) b q := by
  unfold Bc at h ⊢
  simp [putC, World.setCell, Array.getElem?_modify, h]
theorem putC_other {w : World} {b c : Nat} {o : Option Obj} (h : w.heap[b]? = o) (hn : b ≠ c) (q : Cp) : (putC w c q).heap[b]? = o := by
  unfold putC
  rw [Below.heap_setCell _ _ _ _ hn, Below.heap_setCell _ _ _ _ hn, Below.heap_setCell _ _ _ _ hn]
  exact h
theorem Bc.other {w : World} {b c : Nat} {p : Cp} (h : Bc w b p) (hn : b ≠ c) (q : Cp) : Bc (putC w c q) b p := putC_other h hn q
theorem below_putC {B : Nat} {a w : World} (h : Below B a w) {b : Nat} (hb : B ≤ b) (q : Cp) : Below B a (putC w b q) := ((h.setCell (p := ⟨b, 0, none⟩) hb _).setCell (p := ⟨b, 1, none⟩) hb _).setCell (p := ⟨b, 2, none⟩) hb _
/-- all that a store of a copy into a box, and the return, want -/
theorem Bc.all {w : World} {b : Nat} {p : Cp} (h : Bc w b p) (x y : Int) (s : ByteArray) : w.cell? ⟨b, 0, none⟩ = some (.int .i64 p.1.1) ∧ w.frozen? ⟨b, 0, none⟩ = false ∧
    (w.setCell ⟨b, 0, none⟩ (.int .i64 x)).cell? ⟨b, 1, none⟩ = some (.int .i64 p.1.2) ∧ (w.setCell ⟨b, 0, none⟩ (.int .i64 x)).frozen? ⟨b, 1, none⟩ = false ∧
    ((w.setCell ⟨b, 0, none⟩ (.int .i64 x)).setCell ⟨b, 1, none⟩ (.int .i64 y)).cell? ⟨b, 2, none⟩ = some (.string p.2) ∧ ((w.setCell ⟨b, 0, none⟩ (.int .i64 x)).setCell ⟨b, 1, none⟩ (.int .i64 y)).frozen? ⟨b, 2, none⟩ = false ∧
    ((w.setCell ⟨b, 0, none⟩ (.int .i64 x)).setCell ⟨b, 1, none⟩ (.int .i64 y)).setCell ⟨b, 2, none⟩ (.string s) = putC w b ((x, y), s) := by
  unfold Bc at h
  refine ⟨?_, ?_, ?_, ?_, ?_, ?_, rfl⟩ <;> simp [World.frozen?, World.cell?, World.setCell, Array.getElem?_modify, h]
set_option maxHeartbeats 400000 in
theorem ccheck_any (c : Cp) (w : World) : Calls Try.prog 25 #[cv c] w fun e w' => e = .returned (.int .i64 (cck c)) ∧ Below w.heap.size w w' := by
  obtain ⟨⟨t, u⟩, s⟩ := c
  have HN : Hid (cv ((t, u), s) = .agg #[.int .i64 t, .int .i64 u, .string s]) := rfl
  rw [HN.out]
  have HE : Hid (cck ((t, u), s) = if sck (t, u) = 0 then (if 64 < s.size then 2 else 0) else sck (t, u)) := rfl
  have B0 := hid_of (below_new w (.cells #[.int .i64 t, .int .i64 u, .string s] 37))
  have X0 := hid_of (heap_new w (.cells #[.int .i64 t, .int .i64 u, .string s] 37))
  go_enter Try.func25, Try.ntmps25
  go_wp2_with fail
  refine (checkS_at t u _).mono ?_
  rintro e w1 ⟨rfl, h1⟩
  have X1 := hid_of ((h1.block _ (heap_lt X0.out)).trans X0.out)
  have B1 := hid_of (B0.out.trans (h1.mono B0.out.size))
  clear h1 B0 X0
  rcases sck_or (t, u) with ec | ec
  · rw [ec] at HE ⊢
    clear ec
    obtain ⟨z0, z1, z2⟩ := cells3 X1.out
    by_cases c : 64 < s.size
    · have c' : (64 : Int) < s.size := by omega
      have HE2 : Hid (cck ((t, u), s) = 2) := hid_of (by rw [HE.out, if_pos rfl, if_pos c])
      clear c HE
      go_wp2_with fail
      go_ret
      exact ⟨ret_int HE2.out.symm, B1.out⟩
    · have c' : ¬ (64 : Int) < s.size := by omega
      have HE2 : Hid (cck ((t, u), s) = 0) := hid_of (by rw [HE.out, if_pos rfl, if_neg c])
      clear c HE
      go_wp2_with fail
      go_ret
      exact ⟨ret_int HE2.out.symm, B1.out⟩
  · rw [ec] at HE ⊢
    clear ec
    go_wp2_with fail
    go_ret
    exact ⟨ret_int (by rw [HE.out]; rfl), B1.out⟩
end Go.Proofs.Ytcplbpnpcmgjfaa
