/- Contracts that ask something of what is given. -/
import Derived.Test.YtcplbpnpcmgjfabYs
namespace Go.Proofs.Ytcplbpnpcmgjfab
open Go.ChangeShapes Go.WideShapes Go.ChangeAt Go.RowKit Go.Shelf
theorem arg_len {P : Program} {H : Type} {enc : TypeId × Value → H} {W : World} {t e : TypeId} {fuel : Nat} {a : Option Addr} {l c : Nat} {d : DataW H} {p : List MemPlace} (hu : P.underlying t = some (.slice e))
    (hf : DataW.trod enc P W 0 (fun _ => true) true fuel t (Value.slice a l c).cells.toList = some (d, p)) : l = 0 ∨ ∃ elems spare, d = .slice elems spare ∧ elems.length = l := by
  rcases Deep.open_slice hu hf with ⟨hcs, _⟩ | ⟨x, len, cap, m, n', D, Pl, hcs, _, hl, hm, hmm, hx, hel⟩
  · simp [Value.cells] at hcs
    obtain ⟨rfl, rfl, rfl⟩ := hcs
    exact .inl rfl
  · simp [Value.cells] at hcs
    obtain ⟨rfl, rfl, rfl⟩ := hcs
    obtain ⟨rfl, rfl⟩ := Prod.mk.inj hx
    exact .inr ⟨_, _, rfl, by simp⟩
def listA (ks : List CK) (A : List CA → Prop) (G : List CA → Option Value) : QCon := fun args H k => toCA H ks args fun l => .ask (A l) (match G l with | some r => k r | none => .bad)
theorem det_listA (ks : List CK) (A : List CA → Prop) (G : List CA → Option Value) (args : List Value) (H : List AObj) : Det (listA ks A G args H) := fun k Φ h => by
  unfold listA at h
  obtain ⟨l, ⟨h0, h1⟩, h2⟩ := det_toCA H ks args _ _ h
  split at h1
  · rename_i r hg
    exact ⟨r, h1, fun k' Φ' h' => h2 _ _ ⟨h0, by simp only [hg]; exact h'⟩⟩
  · exact h1.elim
theorem list_qA {Kn : Kn} (hK : Kn.Ok) {L : Nat → Option LCon} {f : FuncId} {fn : Func} (hf : Kn.P.funcs[f]? = some fn) (hn : (fn.name == "runtime.NumGoroutine") = false) (hb : fn.body.isNone = false)
    (hL : ∀ c, fn.body = some c → ∀ c' ∈ loops c, ∀ F, L (key c') = some F → LOk Kn.P c' F) {ks : List CK} {A : List CA → Prop} {G : List CA → Option Value}
    (hG : ∀ cas r, Bnd cas → KindA ks cas → A cas → G cas = some r → clean r = true ∧ (evV Kn L fn (canonA 0 cas) (canonH cas)).sat fun _ S => S.slots = [some r]) : QOk Kn.P f (listA ks A G) := by
  refine ⟨enter_ok hf hn hb, det_listA ks A G, fun Φ args H k h base w0 ρ w us hc hr => ?_⟩
  unfold listA at h
  obtain ⟨cas, ps, ⟨g0, g1⟩, ⟨g2, gk⟩, g3⟩ := toCA_ok hc h hr
  split at g1
  · rename_i r hg
    obtain ⟨h1, h2⟩ := hG cas r g2.bnd gk g0 hg
    refine ⟨r, r, g1, (clean_Rn h1).2 rfl, fun w' hw' => ?_⟩
    have hH := HC.canon g2 hw'
    have hA := g3 (fun i => ps[i]?) 0 fun j hj => ⟨ps[j], List.getElem?_eq_getElem hj, by rw [Nat.zero_add]; exact List.getElem?_eq_getElem hj⟩
    exact evV_ok hK hf hL h2 hH hA fun H' ρ' w2 u hc2 _ hr2 => ⟨by rw [(clean_Rn h1).1 hr2], hc2.below⟩
  · exact g1.elim
end Go.Proofs.Ytcplbpnpcmgjfab
