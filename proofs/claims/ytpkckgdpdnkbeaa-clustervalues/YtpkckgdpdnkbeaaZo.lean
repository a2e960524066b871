/- A symbolic run of Go code: what an operation yields hangs on what it is handed alone. -/
import Derived.Test.YtpkckgdpdnkbeaaZv
namespace Go.Proofs.Ytpkckgdpdnkbeaa
open Go.RowKit
theorem tst_t {Φ : Lf} {b : Bool} {t f : Out} (hb : b = true) (h : t.sat Φ) : (tst b t f).sat Φ := by subst hb; exact h
theorem tst_f {Φ : Lf} {b : Bool} {t f : Out} (hb : b = false) (h : f.sat Φ) : (tst b t f).sat Φ := by subst hb; exact h
theorem det_vget (S : ASt) (x : Operand) : Det (vget S x) := fun k Φ h => by
  unfold vget at h
  split at h
  · rename_i v hx
    exact ⟨v, h, fun k' Φ' h' => by unfold vget; rw [hx]; exact h'⟩
  · exact h.elim
theorem det_readH (H : List AObj) (i off : Nat) (sp : Option Nat) (n : Nat) : Det (readH H i off sp n) := fun k Φ h => by
  unfold readH at h
  split at h
  · rename_i T cs ho
    split at h
    · split at h
      · rename_i vs hr
        exact ⟨vs, h, fun k' Φ' h' => by unfold readH; simp only [ho, hr]; exact h'⟩
      · exact h.elim
    · exact h.elim
  · rename_i sh N g ho
    split at h
    · obtain ⟨hp, h⟩ := h
      split at h
      · rename_i vs hr
        exact ⟨vs, h, fun k' Φ' h' => by unfold readH; simp only [ho]; exact ⟨hp, by simp only [hr]; exact h'⟩⟩
      · exact h.elim
    · exact h.elim
  · rename_i e sh N g ho
    split at h
    · obtain ⟨hp, h⟩ := h
      split at h
      · rename_i vs hr
        exact ⟨vs, h, fun k' Φ' h' => by unfold readH; simp only [ho]; exact ⟨hp, by simp only [hr]; exact h'⟩⟩
      · exact h.elim
    · exact h.elim
  · exact h.elim
theorem det_vload (P : Program) (t : TypeId) (H : List AObj) (p : Option Value) : Det (vload P t H p) := fun k Φ h => by
  unfold vload at h
  split at h
  · rename_i i off sp
    split at h
    · rename_i n hs
      obtain ⟨vs, h1, h2⟩ := det_readH _ _ _ _ _ _ _ h
      exact ⟨_, h1, fun k' Φ' h' => by unfold vload; simp only [hs]; exact h2 _ _ h'⟩
    · rename_i n hs
      obtain ⟨vs, h1, h2⟩ := det_readH _ _ _ _ _ _ _ h
      cases vs with
      | nil => exact h1.elim
      | cons v vs => exact ⟨v, h1, fun k' Φ' h' => by unfold vload; simp only [hs]; exact h2 _ _ h'⟩
    · exact h.elim
  · exact h.elim
theorem det_stepA (H : List AObj) (i off : Nat) (sp : Option Nat) (n sz : Nat) : Det (stepA H i off sp n sz) := fun k Φ h => by
  unfold stepA at h
  split at h
  · rename_i z N g ho
    split at h
    · rename_i hz
      exact ⟨_, h, fun k' Φ' h' => by unfold stepA; simp only [ho, hz]; exact h'⟩
    · exact h.elim
  · rename_i e z N g ho
    split at h
    · rename_i hz
      exact ⟨_, h, fun k' Φ' h' => by unfold stepA; simp only [ho, hz]; exact h'⟩
    · exact h.elim
  · rename_i T cs ho
    split at h
    · exact ⟨_, h, fun k' Φ' h' => by unfold stepA; simp only [ho]; exact h'⟩
    · exact h.elim
  · exact h.elim
theorem det_cutA (H : List AObj) (i off : Nat) (sp : Option Nat) (l sz len cap : Nat) : Det (cutA H i off sp l sz len cap) := fun k Φ h => by
  unfold cutA at h
  split at h
  · rename_i z N g ho
    split at h
    · split at h
      · rename_i hz
        exact ⟨_, h, fun k' Φ' h' => by unfold cutA; simp only [ho, hz]; exact h'⟩
      · exact h.elim
    · exact h.elim
  · rename_i e z N g ho
    split at h
    · split at h
      · rename_i hz
        exact ⟨_, h, fun k' Φ' h' => by unfold cutA; simp only [ho, hz]; exact h'⟩
      · exact h.elim
    · exact h.elim
  · rename_i T cs ho
    split at h
    · exact ⟨_, h, fun k' Φ' h' => by unfold cutA; simp only [ho]; exact h'⟩
    · exact h.elim
  · exact h.elim
theorem det_vindexAddr (P : Program) (t : TypeId) (H : List AObj) (x ix : Option Value) : Det (vindexAddr P t H x ix) := fun k Φ h => by
  unfold vindexAddr at h
  split at h
  · rename_i e hu
    split at h
    · split at h
      · split at h
        · rename_i inf hi
          obtain ⟨hp, h⟩ := h
          obtain ⟨a, h1, h2⟩ := det_stepA _ _ _ _ _ _ _ _ h
          exact ⟨_, h1, fun k' Φ' h' => by unfold vindexAddr; simp only [hu, hi]; exact ⟨hp, h2 _ _ h'⟩⟩
        · exact h.elim
      · exact h.elim
    · exact h.elim
  · rename_i len e hu
    split at h
    · split at h
      · split at h
        · rename_i inf hi
          obtain ⟨hp, h⟩ := h
          exact ⟨_, h, fun k' Φ' h' => by unfold vindexAddr; simp only [hu, hi]; exact ⟨hp, h'⟩⟩
        · exact h.elim
      · exact h.elim
    · exact h.elim
  · exact h.elim
theorem det_vfieldAddr (P : Program) (t : TypeId) (x : Option Value) (f : Nat) : Det (vfieldAddr P t x f) := fun k Φ h => by
  unfold vfieldAddr at h
  split at h
  · rename_i fs hu
    split at h
    · split at h
      · rename_i fd hf
        split at h
        · rename_i inf hi
          split at h
          · exact h.elim
          · rename_i z hz
            exact ⟨_, h, fun k' Φ' h' => by unfold vfieldAddr; simp only [hu, hf, hi, hz]; exact h'⟩
        · exact h.elim
      · exact h.elim
    · exact h.elim
  · exact h.elim
theorem det_vfield (P : Program) (t : TypeId) (x : Option Value) (f : Nat) : Det (vfield P t x f) := fun k Φ h => by
  unfold vfield at h
  split at h
  · rename_i fs hu
    split at h
    · split at h
      · rename_i fd hf
        split at h
        · rename_i n hs
          split at h
          · rename_i vs hr
            exact ⟨_, h, fun k' Φ' h' => by unfold vfield; simp only [hu, hf, hs, hr]; exact h'⟩
          · exact h.elim
        · rename_i n hs
          split at h
          · rename_i v hr
            exact ⟨_, h, fun k' Φ' h' => by unfold vfield; simp only [hu, hf, hs, hr]; exact h'⟩
          · exact h.elim
        · exact h.elim
      · exact h.elim
    · exact h.elim
  · exact h.elim
theorem det_vindex (P : Program) (t : TypeId) (x ix : Option Value) : Det (vindex P t x ix) := fun k Φ h => by
  unfold vindex at h
  split at h
  · rename_i len e hu
    split at h
    · split at h
      · split at h
        · rename_i m hsz
          split at h
          · rename_i inf hi
            split at h
            · rename_i v hv
              exact ⟨_, h.2, fun k' Φ' h' => by unfold vindex; simp only [hu, hsz, hi, hv]; exact ⟨h.1, h'⟩⟩
            · exact h.elim
          · exact h.elim
        · exact h.elim
      · exact h.elim
    · exact h.elim
  · rename_i hu
    split at h
    · split at h
      · obtain ⟨hp, h⟩ := h
        exact ⟨_, h, fun k' Φ' h' => by unfold vindex; simp only [hu]; exact ⟨hp, h'⟩⟩
      · exact h.elim
    · exact h.elim
  · exact h.elim
theorem det_vextract (x : Option Value) (n : Nat) : Det (vextract x n) := fun k Φ h => by
  unfold vextract at h
  split at h
  · split at h
    · rename_i v hv
      exact ⟨v, h, fun k' Φ' h' => by unfold vextract; simp only [hv]; exact h'⟩
    · exact h.elim
  · exact h.elim
theorem det_obnd (x : Option (Option Value)) (y d : Nat) : Det (obnd x y d) := fun k Φ h => by
  unfold obnd at h
  split at h
  · exact ⟨_, h, fun k' Φ' h' => h'⟩
  · exact ⟨_, h.2, fun k' Φ' h' => ⟨h.1, h'⟩⟩
  · exact h.elim
theorem det_vslice (P : Program) (t : TypeId) (H : List AObj) (x : Option Value) (lo hi : Option (Option Value)) : Det (vslice P t H x lo hi) := fun k Φ h => by
  unfold vslice at h
  split at h
  · rename_i hu
    split at h
    · obtain ⟨a, h1, h2⟩ := det_obnd _ _ _ _ _ h
      obtain ⟨b, h3, h4⟩ := det_obnd _ _ _ _ _ h1
      exact ⟨_, h3, fun k' Φ' h' => by unfold vslice; simp only [hu]; exact h2 _ _ (h4 _ _ h')⟩
    · exact h.elim
  · rename_i e hu
    split at h
    · rename_i inf hi'
      split at h
      · obtain ⟨a, h1, h2⟩ := det_obnd _ _ _ _ _ h
        obtain ⟨b, h3, h4⟩ := det_obnd _ _ _ _ _ h1
        obtain ⟨c, h5, h6⟩ := det_cutA _ _ _ _ _ _ _ _ _ _ h3
        exact ⟨_, h5, fun k' Φ' h' => by unfold vslice; simp only [hu, hi']; exact h2 _ _ (h4 _ _ (h6 _ _ h'))⟩
      · obtain ⟨a, h1, h2⟩ := det_obnd _ _ _ _ _ h
        obtain ⟨b, h3, h4⟩ := det_obnd _ _ _ _ _ h1
        exact ⟨_, h3, fun k' Φ' h' => by unfold vslice; simp only [hu, hi']; exact h2 _ _ (h4 _ _ h')⟩
      · exact h.elim
    · exact h.elim
  · exact h.elim
theorem det_vlen (P : Program) (ts : List TypeId) (x : Option (List Value)) : Det (vlen P ts x) := fun k Φ h => by
  unfold vlen at h
  split at h
  · split at h
    · split at h
      · rename_i hu
        split at h
        · exact ⟨_, h, fun k' Φ' h' => by unfold vlen; simp only [hu]; exact h'⟩
        · exact h.elim
      · rename_i hu
        split at h
        · exact ⟨_, h, fun k' Φ' h' => by unfold vlen; simp only [hu]; exact h'⟩
        · exact h.elim
      · exact h.elim
    · exact h.elim
  · exact h.elim
theorem det_vbuild (P : Program) (t : TypeId) (ps : Option (List (Nat × Value))) : Det (vbuild P t ps) := fun k Φ h => by
  unfold vbuild at h
  split at h
  · rename_i fs hu
    split at h
    · rename_i inf hi
      split at h
      · rename_i z hz
        split at h
        · rename_i hs
          split at h
          · rename_i pl hp
            split at h
            · split at h
              · rename_i cs hc
                exact ⟨_, h, fun k' Φ' h' => by unfold vbuild; simp only [hu, hi, hz, hs, hp, hc]; exact h'⟩
              · exact h.elim
            · exact h.elim
          · exact h.elim
        · exact h.elim
      · exact h.elim
    · exact h.elim
  · exact h.elim
theorem det_vbuildA (P : Program) (t : TypeId) (ps : Option (List (Nat × Value))) : Det (vbuildA P t ps) := fun k Φ h => by
  unfold vbuildA at h
  split at h
  · rename_i n e hu
    split at h
    · rename_i inf hi
      split at h
      · rename_i z hz
        split at h
        · rename_i hs
          split at h
          · rename_i ie hp
            split at h
            · split at h
              · rename_i cs hc
                exact ⟨_, h, fun k' Φ' h' => by unfold vbuildA; simp only [hu, hi, hz, hs, hp, hc]; exact h'⟩
              · exact h.elim
            · exact h.elim
          · exact h.elim
        · exact h.elim
      · exact h.elim
    · exact h.elim
  · rename_i hu
    obtain ⟨v, h1, h2⟩ := det_vbuild _ _ _ _ _ h
    refine ⟨v, h1, fun k' Φ' h' => ?_⟩
    unfold vbuildA
    split
    · rename_i n e he; exact absurd he (hu n e)
    · exact h2 _ _ h'
theorem det_vnil (x : Option Value) : Det (vnil x) := fun k Φ h => by
  unfold vnil at h
  split at h
  · exact ⟨_, h, fun k' Φ' h' => h'⟩
  · exact h.elim
theorem det_vfunc (g : Fn) (x y : Option (List Value)) : Det (vfunc g x y) := fun k Φ h => by
  unfold vfunc at h
  split at h
  · split at h
    · exact ⟨_, h, fun k' Φ' h' => h'⟩
    · exact h.elim
  · exact h.elim
theorem det_vslice3 (P : Program) (t : TypeId) (x hi mx : Option Value) : Det (vslice3 P t x hi mx) := fun k Φ h => by
  unfold vslice3 at h
  split at h
  · rename_i e hu
    split at h
    · rename_i inf hi
      split at h
      · split at h
        · split at h
          · exact ⟨_, h.2, fun k' Φ' h' => by unfold vslice3; simp only [hu, hi]; exact ⟨h.1, h'⟩⟩
          · exact h.elim
        · exact h.elim
      · exact h.elim
    · exact h.elim
  · exact h.elim
theorem det_rowsOf (H : List AObj) (sh : List LK) (x : Value) (k : Nat → (Nat → List Value) → Out) (Φ : Lf) (h : (rowsOf H sh x k).sat Φ) :
    ∃ len g, (k len g).sat Φ ∧ ∀ (k' : Nat → (Nat → List Value) → Out) (Φ' : Lf), (k' len g).sat Φ' → (rowsOf H sh x k').sat Φ' := by
  unfold rowsOf at h
  split at h
  · split at h
    · rename_i ho
      split at h
      · rename_i hb
        split at h
        · exact ⟨_, _, h.2, fun k' Φ' h' => by unfold rowsOf; simp only [ho, hb]; exact ⟨h.1, h'⟩⟩
        · exact h.elim
      · exact h.elim
    · rename_i ho
      split at h
      · rename_i hb
        split at h
        · exact ⟨_, _, h.2, fun k' Φ' h' => by unfold rowsOf; simp only [ho, hb]; exact ⟨h.1, h'⟩⟩
        · exact h.elim
      · exact h.elim
    · rename_i ho
      split at h
      · split at h
        · rename_i hb
          exact ⟨_, _, h, fun k' Φ' h' => by unfold rowsOf; simp only [ho, hb]; exact h'⟩
        · exact h.elim
      · exact h.elim
    · exact h.elim
  · split at h
    · rename_i hb
      exact ⟨_, _, h, fun k' Φ' h' => by unfold rowsOf; simp only [hb]; exact h'⟩
    · exact h.elim
  · exact h.elim
theorem det_appAt (H : List AObj) (e : TypeId) (sh : List LK) (x : Value) (k : List (Nat × AObj) → Nat → (Nat → List Value) → Out) (Φ : Lf) (h : (appAt H e sh x k).sat Φ) :
    ∃ gs n g, (k gs n g).sat Φ ∧ ∀ (k' : List (Nat × AObj) → Nat → (Nat → List Value) → Out) (Φ' : Lf), (k' gs n g).sat Φ' → (appAt H e sh x k').sat Φ' := by
  unfold appAt at h
  split at h
  · split at h
    · rename_i hb
      exact ⟨_, _, _, h, fun k' Φ' h' => by unfold appAt; simp only [hb]; exact h'⟩
    · exact h.elim
  · split at h
    · rename_i ho
      split at h
      · rename_i hb
        exact ⟨_, _, _, h.2, fun k' Φ' h' => by unfold appAt; simp only [ho, hb]; exact ⟨h.1, h'⟩⟩
      · exact h.elim
    · exact h.elim
  · exact h.elim
theorem det_veq (F : Value → Value → Option Bool) (pos : Bool) (x y : Option Value) : Det (veq F pos x y) := fun k Φ h => by
  unfold veq at h
  split at h
  · split at h
    · split at h
      · rename_i hc
        split at h
        · rename_i b hb
          exact ⟨_, h, fun k' Φ' h' => by unfold veq; simp only [hc, hb]; exact h'⟩
        · exact h.elim
      · exact h.elim
    · exact h.elim
  · exact h.elim
theorem det_vnum (op : BinOp) (x y : Option Value) : Det (vnum op x y) := fun k Φ h => by
  unfold vnum at h
  split at h
  · split at h
    · split at h
      · exact ⟨_, h.2, fun k' Φ' h' => ⟨h.1, h'⟩⟩
      · exact ⟨_, h.2, fun k' Φ' h' => ⟨h.1, h'⟩⟩
      · exact ⟨_, h.2, fun k' Φ' h' => ⟨h.1, h'⟩⟩
      · exact ⟨_, h.2, fun k' Φ' h' => ⟨h.1, h'⟩⟩
      · exact h.elim
    · exact h.elim
  · exact h.elim
theorem det_vpure (P : Program) (o : Oper) (S : ASt) : Det (vpure P o S) := fun k Φ h => by
  unfold vpure at h
  split at h
  · rename_i hc
    split at h
    · rename_i r hr
      split at h
      · rename_i hcl
        exact ⟨r, h, fun k' Φ' h' => by unfold vpure; simp only [hc, hr, hcl]; exact h'⟩
      · exact h.elim
    · exact h.elim
  · exact h.elim
theorem det_vcall {En : Env} (hE : En.Ok) (f : Option Value) (x : Option (List Value)) (H : List AObj) : Det (vcall En f x H) := fun k Φ h => by
  unfold vcall at h
  split at h
  · rename_i g fs cs
    split at h
    · rename_i F hF
      split at h
      · rename_i vs
        obtain ⟨v, h1, h2⟩ := (hE.q g F hF).2.1 _ H k Φ h
        exact ⟨v, h1, fun k' Φ' h' => by unfold vcall; simp only [hF]; exact h2 _ _ h'⟩
      · exact h.elim
    · exact h.elim
  · exact h.elim
theorem det_vfind (n : Int) : ∀ (l : List MapEntry) (hit : Value → Value) (miss : Value) (k : Value → Out) (Φ : Lf), (vfind n l (fun v => k (hit v)) (k miss)).sat Φ → ∃ v, (k v).sat Φ ∧ ∀ (k' : Value → Out) (Φ' : Lf), (k' v).sat Φ' → (vfind n l (fun v => k' (hit v)) (k' miss)).sat Φ'
  | [], hit, miss, k, Φ, h => ⟨miss, h, fun _ _ h' => h'⟩
  | e :: l, hit, miss, k, Φ, h => by
    unfold vfind at h
    split at h
    · rename_i m hk
      rcases tst_sat h with ⟨e1, h⟩ | ⟨e1, h⟩
      · exact ⟨_, h, fun k' Φ' h' => by unfold vfind; rw [hk]; exact tst_t e1 h'⟩
      · obtain ⟨v, h1, h2⟩ := det_vfind n l hit miss k Φ h
        exact ⟨v, h1, fun k' Φ' h' => by unfold vfind; rw [hk]; exact tst_f e1 (h2 _ _ h')⟩
    · exact h.elim
theorem det_vlookup (P : Program) (t : TypeId) (H : List AObj) (x ix : Option Value) : Det (vlookup P t H x ix) := fun k Φ h => by
  unfold vlookup at h
  split at h
  · rename_i kt et hu
    split at h
    · rename_i huk
      split at h
      · rename_i i
        split at h
        · rename_i n
          split at h
          · rename_i es c hi
            split at h
            · rename_i inf hinf
              split at h
              · rename_i z hz
                split at h
                · rename_i hcl
                  obtain ⟨v, h1, h2⟩ := det_vfind n es (fun v => .tuple ⟨[v, .bool true]⟩) (.tuple ⟨[z, .bool false]⟩) k Φ h
                  exact ⟨v, h1, fun k' Φ' h' => by unfold vlookup; simp only [hu, huk, hi, hinf, hz, hcl]; exact h2 k' Φ' h'⟩
                · exact h.elim
              · exact h.elim
            · exact h.elim
          · exact h.elim
        · exact h.elim
      · exact h.elim
    · exact h.elim
  · exact h.elim
theorem det_vop {En : Env} (hE : En.Ok) (o : Oper) (S : ASt) : Det (vop En o S) := fun k Φ h => by
  have key : ∀ (f : (Value → Out) → Out), Det f → (∀ k, vop En o S k = f k) → ∃ v, (k v).sat Φ ∧ ∀ (k' : Value → Out) (Φ' : Lf), (k' v).sat Φ' → (vop En o S k').sat Φ' := fun f hd he => by
    rw [he] at h
    obtain ⟨v, h1, h2⟩ := hd k Φ h
    exact ⟨v, h1, fun k' Φ' h' => by rw [he]; exact h2 _ _ h'⟩
  unfold vop at h
  split at h
  · rename_i x ho; exact key _ (det_vget S x) (fun k => by unfold vop; rw [ho])
  · rename_i x ho; exact key _ (det_vget S x) (fun k => by unfold vop; rw [ho])
  · rename_i c x y ho
    split at h
    · rename_i b hb
      rcases tst_sat h with ⟨e, h'⟩ | ⟨e, h'⟩
      · obtain ⟨v, h1, h2⟩ := det_vget S x _ _ h'
        exact ⟨v, h1, fun k' Φ' h' => by unfold vop; rw [ho]; simp only [hb]; exact tst_t e (h2 _ _ h')⟩
      · obtain ⟨v, h1, h2⟩ := det_vget S y _ _ h'
        exact ⟨v, h1, fun k' Φ' h' => by unfold vop; rw [ho]; simp only [hb]; exact tst_f e (h2 _ _ h')⟩
    · exact h.elim
  · rename_i ho; exact key _ (det_vload _ _ _ _) (fun k => by unfold vop; rw [ho])
  · rename_i ho; exact key _ (det_vindexAddr _ _ _ _ _) (fun k => by unfold vop; rw [ho])
  · rename_i ho; exact key _ (det_vfieldAddr _ _ _ _) (fun k => by unfold vop; rw [ho])
  · rename_i ho; exact key _ (det_vfield _ _ _ _) (fun k => by unfold vop; rw [ho])
  · rename_i ho; exact key _ (det_vindex _ _ _ _) (fun k => by unfold vop; rw [ho])
  · rename_i ho; exact key _ (det_vextract _ _) (fun k => by unfold vop; rw [ho])
  · rename_i ho; exact key _ (det_vslice _ _ _ _ _ _) (fun k => by unfold vop; rw [ho])
  · rename_i ho; exact key _ (det_vbuildA _ _ _) (fun k => by unfold vop; rw [ho])
  · rename_i ho; exact key _ (det_vnil _) (fun k => by unfold vop; rw [ho])
  · rename_i ho; exact key _ (det_vfunc _ _ _) (fun k => by unfold vop; rw [ho])
  · rename_i ho; exact key _ (det_vslice3 _ _ _ _ _) (fun k => by unfold vop; rw [ho])
  · rename_i ho; exact key _ (det_vlen _ _ _) (fun k => by unfold vop; rw [ho])
  · rename_i ho; exact key _ (det_vpure _ _ _) (fun k => by unfold vop; rw [ho])
  · rename_i ho; exact key _ (det_vpure _ _ _) (fun k => by unfold vop; rw [ho])
  · rename_i ho; exact key _ (det_vcall hE _ _ _) (fun k => by unfold vop; rw [ho])
  · rename_i op t x y t' ho
    split at h
    · rename_i F hF
      split at h
      · exact key _ (det_veq F true (S.ev x) (S.ev y)) (fun k => by unfold vop; rw [ho]; simp only [hF])
      · exact key _ (det_veq F false (S.ev x) (S.ev y)) (fun k => by unfold vop; rw [ho]; simp only [hF])
      · exact h.elim
    · rename_i hF
      split at h
      · rename_i hn; exact key _ (det_vnum op (S.ev x) (S.ev y)) (fun k => by unfold vop; rw [ho]; simp only [hF, hn])
      · rename_i hn; exact key _ (det_vpure En.P o S) (fun k => by unfold vop; rw [ho]; simp only [hF, hn])
  · rename_i ho; exact key _ (det_vpure _ _ _) (fun k => by unfold vop; rw [ho])
  · rename_i ho; exact key _ (det_vpure _ _ _) (fun k => by unfold vop; rw [ho])
  · rename_i ho; exact key _ (det_vlookup _ _ _ _ _) (fun k => by unfold vop; rw [ho])
  · exact h.elim
end Go.Proofs.Ytpkckgdpdnkbeaa
