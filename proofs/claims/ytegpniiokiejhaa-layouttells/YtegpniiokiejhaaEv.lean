/- How pieces lie on nodes: counts. -/
import Derived.Test.YtegpniiokiejhaaLy5
namespace Go.Proofs.Ytegpniiokiejhaa
open Go.ChangeShapes Go.WideShapes Go.ChangeAt Go.RowKit Go.Shelf
/-- is x at node j? -/
def hit (n x j : Nat) : Nat := if x % n = j then 1 else 0
theorem hit_le (n x j : Nat) : hit n x j ≤ 1 := by unfold hit; split <;> omega
theorem hit_per (n x j : Nat) : hit n (x + n) j = hit n x j := by unfold hit; rw [Nat.add_mod_right]
/-- so many in a row -/
def run (f : Nat → Nat) : Nat → Nat
  | 0 => 0
  | k + 1 => run f k + f k
theorem run_congr {f g : Nat → Nat} {k : Nat} (h : ∀ i, i < k → f i = g i) : run f k = run g k := by
  induction k with
  | zero => rfl
  | succ k ih => simp only [run]; rw [ih (fun i hi => h i (by omega)), h k (by omega)]
theorem run_add (f g : Nat → Nat) (k : Nat) : run (fun i => f i + g i) k = run f k + run g k := by
  induction k with
  | zero => rfl
  | succ k ih => simp only [run]; omega
theorem run_shift (f : Nat → Nat) (k : Nat) : run (fun i => f (i + 1)) k + f 0 = run f k + f k := by
  induction k with
  | zero => simp [run]
  | succ k ih => simp only [run]; omega
theorem run_plus (f : Nat → Nat) (a b : Nat) : run f (a + b) = run f a + run (fun i => f (a + i)) b := by
  induction b with
  | zero => rfl
  | succ b ih => rw [← Nat.add_assoc]; simp only [run]; omega
theorem run_mono (f : Nat → Nat) {a b : Nat} (h : a ≤ b) : run f a ≤ run f b := by
  obtain ⟨c, rfl⟩ := Nat.le.dest h
  rw [run_plus]
  omega
theorem run_const (c k : Nat) : run (fun _ => c) k = k * c := by
  induction k with
  | zero => simp [run]
  | succ k ih => simp only [run]; rw [ih, Nat.succ_mul]
theorem run_point (j k : Nat) : run (fun i => if i = j then 1 else 0) k = if j < k then 1 else 0 := by
  induction k with
  | zero => simp [run]
  | succ k ih =>
    simp only [run]
    rw [ih]
    by_cases a : j < k
    · rw [if_pos a, if_neg (by omega), if_pos (by omega)]
    · by_cases b : k = j
      · rw [if_neg a, if_pos b, if_pos (by omega)]
      · rw [if_neg a, if_neg b, if_neg (by omega)]
/-- of n in a row just one is at node j -/
theorem hit_all {n j : Nat} (hj : j < n) (x : Nat) : run (fun s => hit n (x + s) j) n = 1 := by
  induction x with
  | zero =>
    have : run (fun s => hit n (0 + s) j) n = run (fun i => if i = j then 1 else 0) n := run_congr fun i hi => by
      unfold hit; rw [Nat.zero_add, Nat.mod_eq_of_lt hi]
    rw [this, run_point, if_pos hj]
  | succ x ih =>
    have h : run (fun i => hit n (x + (i + 1)) j) n + hit n (x + 0) j = run (fun s => hit n (x + s) j) n + hit n (x + n) j := run_shift (fun s => hit n (x + s) j) n
    have e : run (fun i => hit n (x + (i + 1)) j) n = run (fun s => hit n (x + 1 + s) j) n := run_congr fun i _ => by rw [show x + (i + 1) = x + 1 + i by omega]
    rw [e, hit_per, ih] at h
    rw [Nat.add_zero] at h
    exact Nat.add_right_cancel h
theorem hit_sum {n : Nat} (hn : 0 < n) (x : Nat) : run (fun j => hit n x j) n = 1 := by
  have : run (fun j => hit n x j) n = run (fun i => if i = x % n then 1 else 0) n := run_congr fun i _ => by
    unfold hit
    by_cases h : x % n = i
    · rw [if_pos h, if_pos h.symm]
    · rw [if_neg h, if_neg (fun e => h e.symm)]
  rw [this, run_point, if_pos (Nat.mod_lt _ hn)]
theorem ndo_nat (n t s p : Nat) : ndo n t s p = (((t + s + p) % n : Nat) : Int) := by unfold ndo; push_cast; rfl
theorem c1_run (n t s P j : Nat) : c1 n t s P j = run (fun p => hit n (t + s + p) j) P := by
  induction P with
  | zero => rfl
  | succ P ih =>
    simp only [c1, run]
    rw [ih, ndo_nat]
    unfold hit
    congr 1
    by_cases h : (t + s + P) % n = j
    · rw [if_pos h, if_pos (by rw [h])]
    · rw [if_neg h, if_neg (by omega)]
theorem c2_run (n t P S j : Nat) : c2 n t P S j = run (fun s => run (fun p => hit n (t + s + p) j) P) S := by
  induction S with
  | zero => rfl
  | succ S ih => simp only [c2, run]; rw [ih, c1_run]
theorem run_swap (f : Nat → Nat → Nat) (a b : Nat) : run (fun i => run (fun k => f i k) b) a = run (fun k => run (fun i => f i k) a) b := by
  induction a with
  | zero =>
    simp only [run]
    rw [run_const]
    omega
  | succ a ih => simp only [run]; rw [ih, run_add]
/-- of n stripes node j has as many as there are in a stripe -/
theorem c2_full {n t P j : Nat} (hj : j < n) : c2 n t P n j = P := by
  rw [c2_run, run_swap]
  have : run (fun k => run (fun i => hit n (t + i + k) j) n) P = run (fun _ => 1) P := run_congr fun k _ => by
    rw [← hit_all hj (t + k)]
    exact run_congr fun i _ => by rw [show t + i + k = t + k + i by omega]
  rw [this, run_const, Nat.mul_one]
theorem c2_more {n t P j : Nat} (hj : j < n) (q r : Nat) : c2 n t P (q * n + r) j = q * P + c2 n t P r j := by
  induction q with
  | zero => simp
  | succ q ih =>
    have e : (q + 1) * n + r = n + (q * n + r) := by rw [Nat.succ_mul]; omega
    rw [e, c2_run, run_plus, ← c2_run, c2_full hj]
    have : run (fun i => run (fun p => hit n (t + (n + i) + p) j) P) (q * n + r) = c2 n t P (q * n + r) j := by
      rw [c2_run]
      exact run_congr fun i _ => run_congr fun p _ => by rw [show t + (n + i) + p = t + i + p + n by omega, hit_per]
    rw [this, ih, Nat.succ_mul]
    omega
theorem c2_near {n t P S j : Nat} (hj : j < n) : S / n * P ≤ c2 n t P S j ∧ c2 n t P S j ≤ S / n * P + P ∧ (S % n = 0 → c2 n t P S j = S / n * P) := by
  have e : S = S / n * n + S % n := by rw [Nat.mul_comm]; exact (Nat.div_add_mod S n).symm
  have h := c2_more (t := t) (P := P) hj (S / n) (S % n)
  rw [← e] at h
  have h2 : c2 n t P (S % n) j ≤ P := by
    have := c2_full (t := t) (P := P) hj
    have m := run_mono (fun s => run (fun p => hit n (t + s + p) j) P) (Nat.le_of_lt (Nat.mod_lt S (show n > 0 by omega)))
    rw [← c2_run, ← c2_run, this] at m
    exact m
  refine ⟨by omega, by omega, fun h0 => ?_⟩
  rw [h0] at h
  simpa [c2] using h
/-- all are there -/
theorem c2_sum {n t P S : Nat} (hn : 0 < n) : run (fun j => c2 n t P S j) n = S * P := by
  have e : run (fun j => c2 n t P S j) n = run (fun j => run (fun s => run (fun p => hit n (t + s + p) j) P) S) n := run_congr fun j _ => c2_run n t P S j
  rw [e, run_swap]
  have e2 : run (fun s => run (fun j => run (fun p => hit n (t + s + p) j) P) n) S = run (fun _ => P) S := run_congr fun s _ => by
    rw [run_swap]
    have : run (fun p => run (fun j => hit n (t + s + p) j) n) P = run (fun _ => 1) P := run_congr fun p _ => hit_sum hn _
    rw [this, run_const, Nat.mul_one]
  rw [e2, run_const]
end Go.Proofs.Ytegpniiokiejhaa
