/- A symbolic run of Go code: it is sound. -/
import Derived.Test.YtpkckgdpdnkbeaaZh
namespace Go.Proofs.Ytpkckgdpdnkbeaa
open Go.RowKit
theorem SC.putH {ρ : Ren} {sl : List (Option Value)} {a : Act} (h : SC ρ sl a) (H : List AObj) (d : Option Tmp) {v u : Value} (hv : Rn ρ v u) : SC ρ (ASt.put ⟨sl, H⟩ d v).slots (a.put d u) := SC.put (S := ⟨sl, H⟩) h d hv
section
variable {Kn : Kn} {o : Oper} {Φ : Lf} {k : ASt → Out} {ρ : Ren} {a : Act} {w w0 : World} {base : Nat} {S : ASt} {next : Act → World → Prop} {Q : Exit → Act → World → Prop}
theorem need_at {En : Env} {o : Oper} {S T : ASt} (h : S.slots = T.slots) : need En o S = need En o T := by
  have he : ∀ x, S.ev x = T.ev x := fun x => by cases x <;> simp [ASt.ev, h]
  unfold need
  simp only [he]
theorem ox_ok (hK : Kn.Ok) (h : (ox Kn o S k).sat Φ) (hs : SC ρ S.slots a) (hc : HC base w0 ρ S.heap w)
    (hn : ∀ ρ' S' a' w', (k S').sat Φ → SC ρ' S'.slots a' → HC base w0 ρ' S'.heap w' → RLe ρ ρ' → next a' w') : o.wp Kn.P a w next Q := by
  have hn6 : need Kn.toEnv o S ≤ 6 := by
    exact Nat.le_trans (need_wd Kn.toEnv o S) (wd_six _ _)
  unfold ox at h
  simp only [headX_eq] at h
  split at h
  · rename_i hnd
    obtain ⟨v, e, h1, h2⟩ := rx_ok hK.v h hs hc rfl (fun i o ho => .inr ho) (Nat.le_of_eq hnd) (by omega) (fun t ht => by omega)
    exact h2 next Q fun u ρ' w' g1 g2 g3 g4 => hn ρ' _ _ w' h1 ((hs.mono g2).putO o.dst g1) g4 g2
  · rename_i n hnd
    have hnd' : need Kn.toEnv o ⟨S.slots, S.heap ++ goneL (n + 1)⟩ = n + 1 := (need_at rfl).trans hnd
    obtain ⟨v, e, h1, h2⟩ := rx_ok (Sr := ⟨S.slots, S.heap ++ goneL (n + 1)⟩) hK.v h hs (hc.gones (n + 1)) rfl (fun i o ho => .inr ho) (Nat.le_of_eq hnd') (by omega) (fun t ht => ⟨by
      rw [List.length_append, goneL_len]; omega, by
      cases e : ρ (S.heap.length + t) with
      | none => rfl
      | some l => have := hc.dom _ _ e; omega⟩)
    exact h2 next Q fun u ρ' w' g1 g2 g3 g4 => hn ρ' _ _ w' h1 ((hs.mono g2).putO o.dst g1) g4 g2
theorem mx_ok (hK : Kn.Ok) (h : (mx Kn o S k).sat Φ) (hs : SC ρ S.slots a) (hc : HC base w0 ρ S.heap w)
    (hn : ∀ ρ' S' a' w', (k S').sat Φ → SC ρ' S'.slots a' → HC base w0 ρ' S'.heap w' → RLe ρ ρ' → next a' w') : o.wp Kn.P a w next Q := by
  unfold mx at h
  split at h
  · rename_i f xs ts ho
    split at h
    · rename_i g fs cs hg
      have hf := fnOf_some hg
      split at h
      · rename_i F hF
        unfold mcall at h
        split at h
        · rename_i vs hx
          obtain ⟨q1, q2⟩ := hK.m g F hF
          have hr := evL_RL hs hx
          have h1 := hs.ev hf
          generalize he : a.eval f = uf at h1
          obtain ⟨fs', cs', rfl, r1, r2⟩ := h1.funcA
          unfold Oper.wp
          rw [run_callv q1 ho he]
          exact q2 Φ _ S.heap _ h base w0 ρ w _ hc ((r1.append hr).append r2) _ fun v H' ρ' w' u g1 g2 g3 g4 => hn ρ' _ _ w' g1 (SC.putH (hs.mono g3) H' o.dst g4) (by rw [ASt.put_heap]; exact g2) g3
        · exact h.elim
      · exact ox_ok hK h hs hc hn
    · exact h.elim
  · rename_i op t x y t' ho
    split at h
    · rename_i l hl
      obtain ⟨v, u, h1, h2, h3⟩ := vsnil_ok (w := w) ho hl h hs
      refine Oper.wp_of_quiet (C := fun w' => Below w.heap.size w w') (K := fun a' => a' = a.put o.dst u) (Below.refl _ _) (fun a' w' hw' e => ?_) ⟨u, h3, rfl⟩
      subst e
      exact hn ρ _ _ w' h1 (hs.putO o.dst h2) (hc.step hw') (RLe.refl ρ)
    · exact ox_ok hK h hs hc hn
  · exact ox_ok hK h hs hc hn
end
/-- A region in the text's order. -/
theorem list_ok {Kn : Kn} (hK : Kn.Ok) {Φ : Lf} {base : Nat} {w0 : World} {ops : List Oper} {k : ASt → Out} {Q : Exit → Act → World → Prop} : ∀ (l : List Oper) (ρ : Ren) (S : ASt) (a : Act) (w : World),
    (evOps (mx Kn) ops l S k).sat Φ → SC ρ S.slots a → HC base w0 ρ S.heap w → (∀ ρ' S' a' w', (k S').sat Φ → SC ρ' S'.slots a' → HC base w0 ρ' S'.heap w' → RLe ρ ρ' → Q .normal a' w') → wpList Kn.P ⟨ops⟩ Q l a w
  | [], ρ, S, a, w, h, hs, hc, hq => hq ρ S a w h hs hc (RLe.refl ρ)
  | o :: l, ρ, S, a, w, h, hs, hc, hq => by
    unfold evOps at h
    unfold wpList
    rcases gtest_ok h hs with ⟨hw, S', h, hs, hh'⟩ | ⟨hw, S', h, hs, hh'⟩
    · rw [if_pos hw]
      exact .inl (mx_ok hK h hs (by rw [hh']; exact hc) fun ρ' S2 a2 w2 g1 g2 g3 g4 => list_ok hK l ρ' S2 a2 w2 g1 g2 g3 fun ρ3 S3 a3 w3 e1 e2 e3 e4 => hq ρ3 S3 a3 w3 e1 e2 e3 (g4.trans e4))
    · rw [if_neg (by rw [hw]; simp)]
      exact list_ok hK l ρ _ _ w h (hs.put o.dst (undef_Rn ρ)) (by rw [ASt.put_heap, hh']; exact hc) hq
end Go.Proofs.Ytpkckgdpdnkbeaa
