/- seatBegun, run on its own numbers. -/
import Derived.Test.YtbmbnbhedalcnabXp
namespace Go.Proofs.Ytbmbnbhedalcnab
open Go.RowKit
def forceI (x : Int) (k : Int → Out) : Out := match x with | .ofNat n => k (.ofNat n) | .negSucc n => k (.negSucc n)
def forceS (s : ByteArray) (k : ByteArray → Out) : Out := match s with | ⟨⟨l⟩⟩ => k ⟨⟨l⟩⟩
def forceB (b : Bool) (k : Bool → Out) : Out := match b with | true => k true | false => k false
def forceN (n : Nat) (k : Nat → Out) : Out := match n with | 0 => k 0 | m + 1 => forceN m fun m => k (m + 1)
def forceV (v : Value) (k : Value → Out) : Out :=
  match v with
  | .int kd x => forceI x fun x => k (.int kd x)
  | .string s => forceS s fun s => k (.string s)
  | .bool b => forceB b fun b => k (.bool b)
  | v => k v
def forceC (r : RC) (k : RC → Out) : Out :=
  match r with
  | .val v => forceV v fun v => k (.val v)
  | .rows e sh n g => forceN n fun n => k (.rows e sh n g)
  | r => k r
def forceL : List RC → (List RC → Out) → Out
  | [], k => k []
  | r :: l, k => forceC r fun r => forceL l fun l => k (r :: l)
theorem forceN_eq : ∀ (n : Nat) (k : Nat → Out), forceN n k = k n
  | 0, _ => rfl
  | n + 1, k => forceN_eq n fun m => k (m + 1)
theorem forceV_eq (v : Value) (k : Value → Out) : forceV v k = k v := by
  unfold forceV
  split
  · rename_i x; cases x <;> rfl
  · rename_i s; cases s with | mk d => cases d; rfl
  · rename_i b; cases b <;> rfl
  · rfl
theorem forceC_eq (r : RC) (k : RC → Out) : forceC r k = k r := by
  unfold forceC
  split
  · exact forceV_eq _ _
  · exact forceN_eq _ _
  · rfl
theorem forceL_eq : ∀ (l : List RC) (k : List RC → Out), forceL l k = k l
  | [], _ => rfl
  | r :: l, k => by rw [forceL, forceC_eq, forceL_eq l]
/-- what a function hands out, as numbers at once -/
def listGs (ks rk : List CK) (G : List CA → Option (List RC)) : FCon := fun args H k => argsC ks args H fun l => (match G l with | some rs => forceL rs fun rs => (match Nat.ble (resO rs).length 6 with | true => k (resR rk rs) | false => .bad) | none => .bad)
theorem listGs_eq (ks rk : List CK) (G : List CA → Option (List RC)) : listGs ks rk G = listG ks rk G := by
  funext args H k
  unfold listGs listG
  congr 1
  funext l
  cases G l with
  | none => rfl
  | some rs => exact forceL_eq _ _
theorem gs_ok {P : Program} {f : FuncId} {ks rk : List CK} {G : List CA → Option (List RC)} (h : FOk P f (listG ks rk G)) : FOk P f (listGs ks rk G) := by rw [listGs_eq]; exact h
-- @file xq.chain
noncomputable def K22 : Kn := ((K21.addF 6 (listGs [.one .val, .one .val] [.agg [.val, .val, .val, .val, .val], .one .val, .one .val] g_serve)).addF 15 (listGs [.agg [.rows wtK, .val], .one .val, .one .val, .one .val] [.agg [.val, .val, .val, .val, .val, .val, .val, .val], .one .val, .one .val] g_begin)).addF 14 (listGs [.agg [.rows wtK, .val], .one .val, .one .val, .one .val] [.agg [.val, .val, .val, .val, .val, .val, .val, .val], .one .val, .one .val] g_hear)
theorem K22_ok : K22.Ok := ((K21_ok.addF (gs_ok f_serve)).addF (gs_ok f_begin)).addF (gs_ok f_hear)
-- @end
def gTrue : List CA → Option Value
  | [] => some (.bool true)
  | _ => none
end Go.Proofs.Ytbmbnbhedalcnab
