/- CopiesParts: of two lists together is told what is told of their best ones. -/
import Derived.Test.YtcplbpnpcmgjfabRows
import Derived.Test.YtcplbpnpcmgjfabVr
import Derived.Test.YtcplbpnpcmgjfabYt
import Derived.Test.YtcplbpnpcmgjfabYs
import Derived.WalkKit
import Derived.ProofKit
import Derived.OpenShut
import Derived.ShutString
import Derived.ChangeOld
import Derived.Below
import Derived.SizedLaws
import Derived.JoinedCond
import Derived.Deep.CondSized
namespace Go.Proofs.Ytcplbpnpcmgjfab.copiesParts
open Go.ChangeShapes Go.WideShapes Go.ChangeAt Go.RowKit
open Go.ChangeMaps (open_string shut_string)

theorem own : ownKnob Try.prog.godebug = none := by kernel_rfl
theorem laidOut : laidOutB Try.prog = true := by kernel_rfl
theorem bulk_one {H : Type} (d : DataW H) : 1 ≤ Rows.uptoBulk d := by
  cases d with
  | lit l => cases l <;> simp [Rows.uptoBulk]
  | _ => simp [Rows.uptoBulk]
theorem bulk_all {H : Type} : ∀ (l : List (DataW H)), l.length ≤ Rows.uptoBulkAll l
  | [] => Nat.zero_le _
  | d :: l => by
    have h1 := bulk_one d
    have h2 := bulk_all l
    simp only [Rows.uptoBulkAll, List.length_cons]
    omega
theorem bulk_at {H : Type} : ∀ {l : List (DataW H)} {j : Nat} {d : DataW H}, l[j]? = some d → Rows.uptoBulk d ≤ Rows.uptoBulkAll l
  | [], _, _, h => by simp at h
  | x :: l, 0, d, h => by
    simp at h
    subst h
    simp only [Rows.uptoBulkAll]
    omega
  | x :: l, j + 1, d, h => by
    have := bulk_at (l := l) (j := j) (by simpa using h)
    simp only [Rows.uptoBulkAll]
    omega
theorem bulk_len {H : Type} {l : List (DataW H)} {j n : Nat} {d : DataW H} (hk : Rows.uptoSmall H l = true) (hj : l[j]? = some d) (h : n = 0 ∨ ∃ elems spare, d = .slice elems spare ∧ elems.length = n) : n ≤ 1048576 := by
  have hb : Rows.uptoBulkAll l ≤ 1048576 := of_decide_eq_true hk
  rcases h with rfl | ⟨elems, spare, rfl, rfl⟩
  · exact Nat.zero_le _
  · have h1 := bulk_at hj
    have h2 := bulk_all elems
    simp only [Rows.uptoBulk] at h1
    omega

theorem run_parts (len cap : Nat) (g : Nat → List Value) (len' cap' : Nat) (g' : Nat → List Value) : evV K8 noL Try.f6 [.slice (some ⟨0, 0, none⟩) len cap, .slice (some ⟨1, 0, none⟩) len' cap'] [.recs cpK len g, .recs cpK len' g'] = Out.ask (len ≤ len ∧ len ≤ (140737488355328 : Nat)) (Out.ask (len' ≤ len' ∧ len' ≤ (140737488355328 : Nat)) (Out.ask (len ≤ len ∧ len ≤ (140737488355328 : Nat)) (Out.ask (((0 : Nat) + len) * (32 : Nat) ≤ (140737488355328 : Nat)) (Out.all fun c => Out.ask ((0 : Nat) + len = (0 : Nat) + len ∧ c = c) (Out.ask (len' ≤ len' ∧ len' ≤ (140737488355328 : Nat)) (Out.ask (((0 : Nat) + len + len') * (32 : Nat) ≤ (140737488355328 : Nat)) (Out.all fun _ => Out.ask ((0 : Nat) + len + len' ≤ (0 : Nat) + len + len' ∧ (0 : Nat) + len + len' ≤ (140737488355328 : Nat)) (tst (clE (cpsOf len g) != (0 : Int)) (tst (clE (cpsOf ((0 : Nat) + len + len') (joinG ((0 : Nat) + len) (joinG (0 : Nat) (fun _ => []) g) g')) == (0 : Int)) (Out.done AE.ret { slots := [some (Value.bool true)], heap := [] }) (Out.done AE.ret { slots := [some (Value.bool (bif true then decide (((Prod.fst (Prod.fst (mgV (cpsOf ((0 : Nat) + len + len') (joinG ((0 : Nat) + len) (joinG (0 : Nat) (fun _ => []) g) g')))), Prod.snd (Prod.fst (mgV (cpsOf ((0 : Nat) + len + len') (joinG ((0 : Nat) + len) (joinG (0 : Nat) (fun _ => []) g) g'))))), Prod.snd (mgV (cpsOf ((0 : Nat) + len + len') (joinG ((0 : Nat) + len) (joinG (0 : Nat) (fun _ => []) g) g')))) = (((0 : Int), (0 : Int)), { data := #[] })) else !decide (((Prod.fst (Prod.fst (mgV (cpsOf ((0 : Nat) + len + len') (joinG ((0 : Nat) + len) (joinG (0 : Nat) (fun _ => []) g) g')))), Prod.snd (Prod.fst (mgV (cpsOf ((0 : Nat) + len + len') (joinG ((0 : Nat) + len) (joinG (0 : Nat) (fun _ => []) g) g'))))), Prod.snd (mgV (cpsOf ((0 : Nat) + len + len') (joinG ((0 : Nat) + len) (joinG (0 : Nat) (fun _ => []) g) g')))) = (((0 : Int), (0 : Int)), { data := #[] }))))], heap := [] })) (tst (clE (cpsOf len' g') != (0 : Int)) (tst (clE (cpsOf ((0 : Nat) + len + len') (joinG ((0 : Nat) + len) (joinG (0 : Nat) (fun _ => []) g) g')) == (0 : Int)) (Out.done AE.ret { slots := [some (Value.bool true)], heap := [] }) (Out.done AE.ret { slots := [some (Value.bool (bif true then decide (((Prod.fst (Prod.fst (mgV (cpsOf ((0 : Nat) + len + len') (joinG ((0 : Nat) + len) (joinG (0 : Nat) (fun _ => []) g) g')))), Prod.snd (Prod.fst (mgV (cpsOf ((0 : Nat) + len + len') (joinG ((0 : Nat) + len) (joinG (0 : Nat) (fun _ => []) g) g'))))), Prod.snd (mgV (cpsOf ((0 : Nat) + len + len') (joinG ((0 : Nat) + len) (joinG (0 : Nat) (fun _ => []) g) g')))) = (((0 : Int), (0 : Int)), { data := #[] })) else !decide (((Prod.fst (Prod.fst (mgV (cpsOf ((0 : Nat) + len + len') (joinG ((0 : Nat) + len) (joinG (0 : Nat) (fun _ => []) g) g')))), Prod.snd (Prod.fst (mgV (cpsOf ((0 : Nat) + len + len') (joinG ((0 : Nat) + len) (joinG (0 : Nat) (fun _ => []) g) g'))))), Prod.snd (mgV (cpsOf ((0 : Nat) + len + len') (joinG ((0 : Nat) + len) (joinG (0 : Nat) (fun _ => []) g) g')))) = (((0 : Int), (0 : Int)), { data := #[] }))))], heap := [] })) (tst (clE (cpsOf ((0 : Nat) + len + len') (joinG ((0 : Nat) + len) (joinG (0 : Nat) (fun _ => []) g) g')) != (0 : Int)) (tst (clE (cpsOf ((0 : Nat) + len + len') (joinG ((0 : Nat) + len) (joinG (0 : Nat) (fun _ => []) g) g')) == (0 : Int)) (Out.done AE.ret { slots := [some (Value.bool true)], heap := [] }) (Out.done AE.ret { slots := [some (Value.bool (bif true then decide (((Prod.fst (Prod.fst (mgV (cpsOf ((0 : Nat) + len + len') (joinG ((0 : Nat) + len) (joinG (0 : Nat) (fun _ => []) g) g')))), Prod.snd (Prod.fst (mgV (cpsOf ((0 : Nat) + len + len') (joinG ((0 : Nat) + len) (joinG (0 : Nat) (fun _ => []) g) g'))))), Prod.snd (mgV (cpsOf ((0 : Nat) + len + len') (joinG ((0 : Nat) + len) (joinG (0 : Nat) (fun _ => []) g) g')))) = (((0 : Int), (0 : Int)), { data := #[] })) else !decide (((Prod.fst (Prod.fst (mgV (cpsOf ((0 : Nat) + len + len') (joinG ((0 : Nat) + len) (joinG (0 : Nat) (fun _ => []) g) g')))), Prod.snd (Prod.fst (mgV (cpsOf ((0 : Nat) + len + len') (joinG ((0 : Nat) + len) (joinG (0 : Nat) (fun _ => []) g) g'))))), Prod.snd (mgV (cpsOf ((0 : Nat) + len + len') (joinG ((0 : Nat) + len) (joinG (0 : Nat) (fun _ => []) g) g')))) = (((0 : Int), (0 : Int)), { data := #[] }))))], heap := [] })) (tst ((↑len : Int) == (0 : Int)) (tst (clE (cpsOf ((0 : Nat) + len + len') (joinG ((0 : Nat) + len) (joinG (0 : Nat) (fun _ => []) g) g')) == (0 : Int)) (Out.done AE.ret { slots := [some (Value.bool true)], heap := [] }) (Out.done AE.ret { slots := [some (Value.bool (bif true then decide (((Prod.fst (Prod.fst (mgV (cpsOf ((0 : Nat) + len + len') (joinG ((0 : Nat) + len) (joinG (0 : Nat) (fun _ => []) g) g')))), Prod.snd (Prod.fst (mgV (cpsOf ((0 : Nat) + len + len') (joinG ((0 : Nat) + len) (joinG (0 : Nat) (fun _ => []) g) g'))))), Prod.snd (mgV (cpsOf ((0 : Nat) + len + len') (joinG ((0 : Nat) + len) (joinG (0 : Nat) (fun _ => []) g) g')))) = (((0 : Int), (0 : Int)), { data := #[] })) else !decide (((Prod.fst (Prod.fst (mgV (cpsOf ((0 : Nat) + len + len') (joinG ((0 : Nat) + len) (joinG (0 : Nat) (fun _ => []) g) g')))), Prod.snd (Prod.fst (mgV (cpsOf ((0 : Nat) + len + len') (joinG ((0 : Nat) + len) (joinG (0 : Nat) (fun _ => []) g) g'))))), Prod.snd (mgV (cpsOf ((0 : Nat) + len + len') (joinG ((0 : Nat) + len) (joinG (0 : Nat) (fun _ => []) g) g')))) = (((0 : Int), (0 : Int)), { data := #[] }))))], heap := [] })) (tst ((↑len' : Int) == (0 : Int)) (tst (clE (cpsOf ((0 : Nat) + len + len') (joinG ((0 : Nat) + len) (joinG (0 : Nat) (fun _ => []) g) g')) == (0 : Int)) (Out.done AE.ret { slots := [some (Value.bool true)], heap := [] }) (Out.done AE.ret { slots := [some (Value.bool (bif true then decide (((Prod.fst (Prod.fst (mgV (cpsOf ((0 : Nat) + len + len') (joinG ((0 : Nat) + len) (joinG (0 : Nat) (fun _ => []) g) g')))), Prod.snd (Prod.fst (mgV (cpsOf ((0 : Nat) + len + len') (joinG ((0 : Nat) + len) (joinG (0 : Nat) (fun _ => []) g) g'))))), Prod.snd (mgV (cpsOf ((0 : Nat) + len + len') (joinG ((0 : Nat) + len) (joinG (0 : Nat) (fun _ => []) g) g')))) = (((0 : Int), (0 : Int)), { data := #[] })) else !decide (((Prod.fst (Prod.fst (mgV (cpsOf ((0 : Nat) + len + len') (joinG ((0 : Nat) + len) (joinG (0 : Nat) (fun _ => []) g) g')))), Prod.snd (Prod.fst (mgV (cpsOf ((0 : Nat) + len + len') (joinG ((0 : Nat) + len) (joinG (0 : Nat) (fun _ => []) g) g'))))), Prod.snd (mgV (cpsOf ((0 : Nat) + len + len') (joinG ((0 : Nat) + len) (joinG (0 : Nat) (fun _ => []) g) g')))) = (((0 : Int), (0 : Int)), { data := #[] }))))], heap := [] })) (tst (soE (mgV (cpsOf len g)) (mgV (cpsOf len' g')) == (0 : Int)) (Out.done AE.ret { slots := [some (Value.bool (bif true then decide (((Prod.fst (Prod.fst (mgV (cpsOf ((0 : Nat) + len + len') (joinG ((0 : Nat) + len) (joinG (0 : Nat) (fun _ => []) g) g')))), Prod.snd (Prod.fst (mgV (cpsOf ((0 : Nat) + len + len') (joinG ((0 : Nat) + len) (joinG (0 : Nat) (fun _ => []) g) g'))))), Prod.snd (mgV (cpsOf ((0 : Nat) + len + len') (joinG ((0 : Nat) + len) (joinG (0 : Nat) (fun _ => []) g) g')))) = ((Prod.fst (Prod.fst (soV ((Prod.fst (Prod.fst (mgV (cpsOf len g))), Prod.snd (Prod.fst (mgV (cpsOf len g)))), Prod.snd (mgV (cpsOf len g))) ((Prod.fst (Prod.fst (mgV (cpsOf len' g'))), Prod.snd (Prod.fst (mgV (cpsOf len' g')))), Prod.snd (mgV (cpsOf len' g'))))), Prod.snd (Prod.fst (soV ((Prod.fst (Prod.fst (mgV (cpsOf len g))), Prod.snd (Prod.fst (mgV (cpsOf len g)))), Prod.snd (mgV (cpsOf len g))) ((Prod.fst (Prod.fst (mgV (cpsOf len' g'))), Prod.snd (Prod.fst (mgV (cpsOf len' g')))), Prod.snd (mgV (cpsOf len' g')))))), Prod.snd (soV ((Prod.fst (Prod.fst (mgV (cpsOf len g))), Prod.snd (Prod.fst (mgV (cpsOf len g)))), Prod.snd (mgV (cpsOf len g))) ((Prod.fst (Prod.fst (mgV (cpsOf len' g'))), Prod.snd (Prod.fst (mgV (cpsOf len' g')))), Prod.snd (mgV (cpsOf len' g')))))) else !decide (((Prod.fst (Prod.fst (mgV (cpsOf ((0 : Nat) + len + len') (joinG ((0 : Nat) + len) (joinG (0 : Nat) (fun _ => []) g) g')))), Prod.snd (Prod.fst (mgV (cpsOf ((0 : Nat) + len + len') (joinG ((0 : Nat) + len) (joinG (0 : Nat) (fun _ => []) g) g'))))), Prod.snd (mgV (cpsOf ((0 : Nat) + len + len') (joinG ((0 : Nat) + len) (joinG (0 : Nat) (fun _ => []) g) g')))) = ((Prod.fst (Prod.fst (soV ((Prod.fst (Prod.fst (mgV (cpsOf len g))), Prod.snd (Prod.fst (mgV (cpsOf len g)))), Prod.snd (mgV (cpsOf len g))) ((Prod.fst (Prod.fst (mgV (cpsOf len' g'))), Prod.snd (Prod.fst (mgV (cpsOf len' g')))), Prod.snd (mgV (cpsOf len' g'))))), Prod.snd (Prod.fst (soV ((Prod.fst (Prod.fst (mgV (cpsOf len g))), Prod.snd (Prod.fst (mgV (cpsOf len g)))), Prod.snd (mgV (cpsOf len g))) ((Prod.fst (Prod.fst (mgV (cpsOf len' g'))), Prod.snd (Prod.fst (mgV (cpsOf len' g')))), Prod.snd (mgV (cpsOf len' g')))))), Prod.snd (soV ((Prod.fst (Prod.fst (mgV (cpsOf len g))), Prod.snd (Prod.fst (mgV (cpsOf len g)))), Prod.snd (mgV (cpsOf len g))) ((Prod.fst (Prod.fst (mgV (cpsOf len' g'))), Prod.snd (Prod.fst (mgV (cpsOf len' g')))), Prod.snd (mgV (cpsOf len' g'))))))))], heap := [] }) (Out.done AE.ret { slots := [some (Value.bool false)], heap := [] })))))))))))))) := by kernel_rfl

theorem empty_sat {A : List Cp} {c : Cp} (h : c = mgV A) : (tst (clE A == (0 : Int)) (Out.done AE.ret { slots := [some (Value.bool true)], heap := [] }) (Out.done AE.ret { slots := [some (Value.bool (bif true then decide (c = cz) else !decide (c = cz)))], heap := [] })).sat fun _ S => S.slots = [some (.bool true)] := by
  refine sat_tst (fun _ => rfl) (fun h0 => ?_)
  have h0 : clE A ≠ 0 := by simpa using h0
  show _ = _
  rw [h, show mgV A = cz from if_neg h0]
  simp
theorem law_sat (len0 cap0 : Nat) (g0 : Nat → List Value) (len1 cap1 : Nat) (g1 : Nat → List Value) (b0 : len0 ≤ 1048576) (b1 : len1 ≤ 1048576) : Bnd [.rows cpK len0 cap0 g0, .rows cpK len1 cap1 g1] → (evV K8 noL Try.f6 (canonA 0 [.rows cpK len0 cap0 g0, .rows cpK len1 cap1 g1]) (canonH [.rows cpK len0 cap0 g0, .rows cpK len1 cap1 g1])).sat fun _ S => S.slots = [some (.bool true)] := fun _ => by
  show (evV K8 noL Try.f6 [.slice (some ⟨0, 0, none⟩) len0 cap0, .slice (some ⟨1, 0, none⟩) len1 cap1] [.recs cpK len0 g0, .recs cpK len1 g1]).sat _
  rw [run_parts, cps_join]
  generalize hA : cpsOf len0 g0 = A
  generalize hB : cpsOf len1 g1 = B
  have hA0 : len0 ≠ 0 → A ≠ [] := fun h => by rw [← hA]; exact cps_ne h
  have hB0 : len1 ≠ 0 → B ≠ [] := fun h => by rw [← hB]; exact cps_ne h
  refine sat_ask ⟨Nat.le_refl _, by omega⟩ (sat_ask ⟨Nat.le_refl _, by omega⟩ (sat_ask ⟨Nat.le_refl _, by omega⟩ (sat_ask (by omega) fun c => sat_ask ⟨rfl, rfl⟩ (sat_ask ⟨Nat.le_refl _, by omega⟩ (sat_ask (by omega) fun c => sat_ask ⟨Nat.le_refl _, by omega⟩ ?_)))))
  refine sat_tst (fun _ => empty_sat rfl) fun eA => sat_tst (fun _ => empty_sat rfl) fun eB => sat_tst (fun _ => empty_sat rfl) fun eC => sat_tst (fun _ => empty_sat rfl) fun n0 => sat_tst (fun _ => empty_sat rfl) fun n1 => ?_
  have eA : clE A = 0 := by simpa using eA
  have eB : clE B = 0 := by simpa using eB
  have eC : clE (A ++ B) = 0 := by simpa using eC
  have n0 := hA0 (by simpa using n0)
  have n1 := hB0 (by simpa using n1)
  have mA : mgV A = lats A := if_pos eA
  have mB : mgV B = lats B := if_pos eB
  have mC : mgV (A ++ B) = lats (A ++ B) := if_pos eC
  have so : soE (lats A) (lats B) = 0 := soE_zero.2 ⟨lats_ok n0 eA, lats_ok n1 eB⟩
  refine sat_tst (fun _ => ?_) fun h => ?_
  · show [some (Value.bool (bif true then decide (mgV (A ++ B) = soV (mgV A) (mgV B)) else !decide (mgV (A ++ B) = soV (mgV A) (mgV B))))] = _
    rw [mA, mB, mC, soV_yes so, lats_both n0 n1]
    simp
  · rw [mA, mB, so] at h
    cases h

theorem K8_P : K8.P = Try.prog := rfl
theorem walk (W : World) {a0 : Option Addr} (len0 cap0 : Nat) (g0 : Nat → List Value) (w0 : ArgOk W (.rows cpK len0 cap0 g0) (.slice a0 len0 cap0)) {a1 : Option Addr} (len1 cap1 : Nat) (g1 : Nat → List Value) (w1 : ArgOk W (.rows cpK len1 cap1 g1) (.slice a1 len1 cap1)) (b0 : len0 ≤ 1048576) (b1 : len1 ≤ 1048576) : Calls Try.prog 6 #[.slice a0 len0 cap0, .slice a1 len1 cap1] W fun e w' => e = .returned (.bool true) ∧ Below W.heap.size W w' := by
  rewrite [← K8_P]
  refine law_ok (W := W) K8_ok (L := noL) (f := 6) (fn := Try.f6) Try.func6 (no_loops rfl) (cas := [.rows cpK len0 cap0 g0, .rows cpK len1 cap1 g1]) (us := [.slice a0 len0 cap0, .slice a1 len1 cap1]) (r := .bool true) rfl rfl ?_ (@law_sat len0 cap0 g0 len1 cap1 g1 b0 b1)
  intro i c u hc hu
  match i, hc, hu with
  | 0, hc, hu => cases hc; cases hu; exact w0
  | 1, hc, hu => cases hc; cases hu; exact w1
  | i + 2, hc, hu => simp at hc

set_option maxRecDepth 100000 in
theorem contract (H : Type) (enc : TypeId × Value → H) (W : World) (base : Nat) (args : Array Value) (ds gs : List (DataW H)) (before : List MemPlace)
    (hval0 : ∀ (j : Nat) t v, Try.f6.params[j]? = some t → args[j]? = some v → Value.okWide Try.prog W .any base t v)
    (hW : DataW.Whole enc Try.prog Try.f6.params.toList Rows.copiesPartsSpec.vars false W args.toList ds gs before) (hk : Rows.uptoSmall H (ds ++ gs) = true)
    (hsz0 : (DataW.weightsEach Try.prog (Try.f6.params.toList ++ Rows.copiesPartsSpec.plain.varTypes Try.prog) (ds ++ gs)).all (· ≤ reachBytes) = true) :
    Calls Try.prog 6 args W fun e W' => ∃ v, e = .returned v ∧ Rows.copiesPartsSpec.post enc Try.prog Try.f6 false true false false W args v W' := by
  have hsz : (DataW.weightsEach Try.prog (Try.f6.params.toList ++ Rows.copiesPartsSpec.plain.varTypes Try.prog) (ds ++ gs)).all (· ≤ reachBytes) = true := hsz0
  clear hsz0
  have hval : ∀ (j : Nat) t v, Try.f6.params[j]? = some t → args[j]? = some v → Value.okWide Try.prog W .any base t v := hval0
  have hW' := hW
  obtain ⟨p, q, hA0, hV, rfl, hfz, hnd⟩ := hW
  have hA : DataW.TrodAll enc Try.prog W 0 (fun _ => true) true Try.f6.params.toList args.toList ds p := hA0
  rw [Try.params6] at hA hval hsz
  obtain ⟨v0, vs0, d0, ds0, p0, q0, hargs, rfl, rfl, h0, r0⟩ := trodAll_cons hA
  obtain ⟨v1, vs1, d1, ds1, p1, q1, rfl, rfl, rfl, h1, r1⟩ := trodAll_cons r0
  obtain ⟨rfl, rfl, rfl⟩ := trodAll_nil r1
  obtain rfl : args = #[v0, v1] := by cases args; simp_all
  obtain ⟨rfl, rfl⟩ := trodVars_none hV
  obtain ⟨a0, len0, cap0, rfl⟩ := okWide_slice Try.underlying32 (hval 0 32 v0 rfl rfl)
  have k0 := h0
  have lt0 : ∀ x ∈ p0, x.block < W.heap.size := by obtain ⟨m, hm⟩ := k0; exact DataW.trod_lt m _ _ _ hm
  have b0 : len0 ≤ 1048576 := by
    obtain ⟨fuel, hf⟩ := h0
    exact bulk_len hk (j := 0) rfl (arg_len Try.underlying32 hf)
  obtain ⟨g0, w0⟩ : ∃ g, ArgOk W (.rows cpK len0 cap0 g) (.slice a0 len0 cap0) := by
    obtain ⟨fuel, hf⟩ := h0
    exact arg_rows (P := Try.prog) (sh := cpK) (n := 9) (e := 25) (j := 0) Try.underlying32 (by kernel_rfl) (by kernel_rfl) (by decide) (of_decide_eq_true (by kernel_rfl)) hf hsz rfl rfl
  obtain ⟨a1, len1, cap1, rfl⟩ := okWide_slice Try.underlying32 (hval 1 32 v1 rfl rfl)
  have k1 := h1
  have lt1 : ∀ x ∈ p1, x.block < W.heap.size := by obtain ⟨m, hm⟩ := k1; exact DataW.trod_lt m _ _ _ hm
  have b1 : len1 ≤ 1048576 := by
    obtain ⟨fuel, hf⟩ := h1
    exact bulk_len hk (j := 1) rfl (arg_len Try.underlying32 hf)
  obtain ⟨g1, w1⟩ : ∃ g, ArgOk W (.rows cpK len1 cap1 g) (.slice a1 len1 cap1) := by
    obtain ⟨fuel, hf⟩ := h1
    exact arg_rows (P := Try.prog) (sh := cpK) (n := 9) (e := 25) (j := 1) Try.underlying32 (by kernel_rfl) (by kernel_rfl) (by decide) (of_decide_eq_true (by kernel_rfl)) hf hsz rfl rfl
  clear hA0 hval0
  refine (walk W len0 cap0 g0 w0 len1 cap1 g1 w1 b0 b1).mono fun e W' ⟨he, bel⟩ => ?_
  subst he
  exact ⟨_, rfl, _, _, _, [], _, [], hW', trodAll_mk1 (shut_bool Try.underlying4 _), (trodAll_cons_mk (Below.trod laidOut (by kernel_rfl) (of_decide_eq_true (by kernel_rfl)) k0 bel lt0) (trodAll_cons_mk (Below.trod laidOut (by kernel_rfl) (of_decide_eq_true (by kernel_rfl)) k1 bel lt1) trodAll_mk0)), rfl, bel.frame _, fun h => by cases h⟩

set_option maxRecDepth 100000 in
theorem lifted (os : Os) (started : os.Started) (H : Type) (enc : TypeId × Value → H) (F : Stop.Interp) :
    ReturnsInHanded {} Try.checked os 6 .any ((Rows.OpenSpec.upto Rows.copiesPartsSpec).pre6 enc Try.prog Try.f6 Rows.copiesPartsUptoRow.domain false) (((Rows.OpenSpec.upto Rows.copiesPartsSpec).at F).post enc Try.prog Try.f6 false true false false) := by
  refine returnsInHanded_of_cond_sized (C := Try.checked) (s := Rows.OpenSpec.upto Rows.copiesPartsSpec) (k := Rows.uptoSmall) rfl own started (by kernel_rfl) Try.func6
    (OpenSpec.witness (enc := enc) (C := Try.checked) (s := Rows.OpenSpec.upto Rows.copiesPartsSpec) (k := Rows.uptoSmall) rfl false ⟨#[], #[.slice none 0 0, .slice none 0 0], []⟩ 8 (by kernel_rfl) (by kernel_rfl) (by kernel_rfl)
      (x := ([.nil, .nil], [], [])) (by kernel_rfl) rfl (by kernel_rfl)) ?_
  intro W base args ds gs before hval hW _ hk hsz _
  exact contract H enc W base args ds gs before hval hW hk hsz

/-- ████ THE STATEMENT ████ -/
theorem proved : Rows.CopiesPartsUptoSaid :=
  OpenClaim.holds_of_cond 6 Try.f6 rfl rfl rfl rfl rfl rfl rfl ⟨rfl, rfl, rfl, rfl, rfl⟩ rfl rfl rfl rfl rfl (by kernel_rfl) Try.func6 (by kernel_rfl)
    (of_decide_eq_true (by kernel_rfl)) (by unfold Func.isWrapper; first | (rw [if_pos (by decide +kernel)]; kernel_rfl) | (rw [if_neg (by decide +kernel)]; exact ⟨rfl, rfl⟩))
    (fun os started H enc _ F => lifted os started H enc F)
#print axioms proved
end Go.Proofs.Ytcplbpnpcmgjfab.copiesParts
