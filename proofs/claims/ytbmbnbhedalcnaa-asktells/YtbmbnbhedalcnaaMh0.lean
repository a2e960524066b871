/- askBegun, run on its own numbers. -/
import Derived.Test.YtbmbnbhedalcnaaMg
namespace Go.Proofs.Ytbmbnbhedalcnaa
open Go.RowKit
-- @file mi.out
def n0_three  : Nat := (3 : Nat)
def g0_three  : Nat → List Value := (litR [[.int .i64 1], [.int .i64 1], [.int .i64 1]])
def x1_three  : Int := (2 : Int)
theorem run_three  : evR K22 noL Try.f36 [] [] [.agg [.val, .val]] [.rows 3 [LK.kInt IntKind.i64] (n0_three) (g0_three), .val (.int .i64 (x1_three))] = Out.ask ((3 : Nat) = n0_three ∧ (3 : Nat) ≤ (3 : Nat) ∧ ∀ j, j < n0_three → norm [LK.kInt IntKind.i64] ((litR [[.int .i64 1], [.int .i64 1], [.int .i64 1]]) j) = norm [LK.kInt IntKind.i64] (g0_three j)) (Out.ask ((Value.int IntKind.i64 (2 : Int) : Value) = .int .i64 (x1_three)) (Out.done .ret ⟨[], []⟩)) := by kernel_rfl
def g_three : List CA → Option (List RC)
  | [] => some [.rows 3 [LK.kInt IntKind.i64] (n0_three) (g0_three), .val (.int .i64 (x1_three))]
  | _ => none
theorem f_three : FOk K22.P 36 (listG [] [.agg [.val, .val]] g_three) := list_g K22_ok Try.func36 rfl rfl (no_loops rfl) fun cas rs _hb _hk h => by
  unfold g_three at h
  split at h
  · cases h
    show (evR K22 noL _ [] [] [.agg [.val, .val]] _).sat _
    rw [run_three]
    exact sat_ask ⟨rfl, Nat.le_refl _, fun j _ => rfl⟩ (sat_ask (rfl) (sat_end))
  · cases h
-- @end
-- @file mi.chain
noncomputable def K23 : Kn := K22.addF 36 (listG [] [.agg [.val, .val]] g_three)
theorem K23_ok : K23.Ok := K22_ok.addF f_three
-- @end
def forceI (x : Int) (k : Int → Out) : Out := match x with | .ofNat n => k (.ofNat n) | .negSucc n => k (.negSucc n)
def forceS (s : ByteArray) (k : ByteArray → Out) : Out := match s with | ⟨⟨l⟩⟩ => k ⟨⟨l⟩⟩
def forceB (b : Bool) (k : Bool → Out) : Out := match b with | true => k true | false => k false
def forceN (n : Nat) (k : Nat → Out) : Out := match n with | 0 => k 0 | m + 1 => forceN m fun m => k (m + 1)
def forceV (v : Value) (k : Value → Out) : Out :=
  match v with
  | .int kd x => forceI x fun x => k (.int kd x)
  | .string s => forceS s fun s => k (.string s)
  | .bool b => forceB b fun b => k (.bool b)
  | v => k v
def forceC (r : RC) (k : RC → Out) : Out :=
  match r with
  | .val v => forceV v fun v => k (.val v)
  | .rows e sh n g => forceN n fun n => k (.rows e sh n g)
  | r => k r
def forceL : List RC → (List RC → Out) → Out
  | [], k => k []
  | r :: l, k => forceC r fun r => forceL l fun l => k (r :: l)
theorem forceN_eq : ∀ (n : Nat) (k : Nat → Out), forceN n k = k n
  | 0, _ => rfl
  | n + 1, k => forceN_eq n fun m => k (m + 1)
theorem forceV_eq (v : Value) (k : Value → Out) : forceV v k = k v := by
  unfold forceV
  split
  · rename_i x; cases x <;> rfl
  · rename_i s; cases s with | mk d => cases d; rfl
  · rename_i b; cases b <;> rfl
  · rfl
theorem forceC_eq (r : RC) (k : RC → Out) : forceC r k = k r := by
  unfold forceC
  split
  · exact forceV_eq _ _
  · exact forceN_eq _ _
  · rfl
theorem forceL_eq : ∀ (l : List RC) (k : List RC → Out), forceL l k = k l
  | [], _ => rfl
  | r :: l, k => by rw [forceL, forceC_eq, forceL_eq l]
/-- what a function hands out, as numbers at once -/
def listGs (ks rk : List CK) (G : List CA → Option (List RC)) : FCon := fun args H k => argsC ks args H fun l => (match G l with | some rs => forceL rs fun rs => (match Nat.ble (resO rs).length 6 with | true => k (resR rk rs) | false => .bad) | none => .bad)
theorem listGs_eq (ks rk : List CK) (G : List CA → Option (List RC)) : listGs ks rk G = listG ks rk G := by
  funext args H k
  unfold listGs listG
  congr 1
  funext l
  cases G l with
  | none => rfl
  | some rs => exact forceL_eq _ _
theorem gs_ok {P : Program} {f : FuncId} {ks rk : List CK} {G : List CA → Option (List RC)} (h : FOk P f (listG ks rk G)) : FOk P f (listGs ks rk G) := by rw [listGs_eq]; exact h
noncomputable def K24 : Kn := ((K23.addF 20 (listGs [.one .val, .one .val] [.agg [.val, .val, .val], .one .val, .one .val] g_serve)).addF 13 (listGs [.agg [.rows wtK, .val], .one .val, .one .val, .one .val] [.agg [.val, .val, .val, .val, .val, .val, .val, .val], .one .val, .one .val] g_begin)).addF 12 (listGs [.agg [.rows wtK, .val], .one .val, .one .val] [.agg [.val, .val, .val, .val, .val, .val, .val, .val], .one .val, .one .val] g_hear)
theorem K24_ok : K24.Ok := ((K23_ok.addF (gs_ok f_serve)).addF (gs_ok f_begin)).addF (gs_ok f_hear)
def gTrue : List CA → Option Value
  | [] => some (.bool true)
  | _ => none
end Go.Proofs.Ytbmbnbhedalcnaa
