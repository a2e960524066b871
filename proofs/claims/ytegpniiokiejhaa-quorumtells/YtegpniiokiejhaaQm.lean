/- Sorting by insertion, the heaviest first: what the first so many weigh. -/
import Derived.Test.YtegpniiokiejhaaQc
namespace Go.Proofs.Ytegpniiokiejhaa
/-- put x ahead of the first that is lighter -/
def ins (x : Int) : List Int → List Int
  | [] => [x]
  | y :: O => if y < x then x :: y :: O else y :: ins x O
/-- the first so many of L, the heaviest first -/
def srt (L : List Int) : List Int := L.foldl (fun O x => ins x O) []
theorem ins_len (x : Int) (O : List Int) : (ins x O).length = O.length + 1 := by
  induction O with
  | nil => rfl
  | cons y O ih =>
    simp only [ins]
    split
    · simp
    · simp [ih]
theorem srt_snoc (L : List Int) (x : Int) : srt (L ++ [x]) = ins x (srt L) := by simp [srt, List.foldl_append]
theorem srt_take {L : List Int} {k : Nat} (hk : k < L.length) : srt (L.take (k + 1)) = ins (L[k]?.getD 0) (srt (L.take k)) := by
  rw [List.take_succ_eq_append_getElem hk, srt_snoc, List.getElem?_eq_getElem hk]
  rfl
theorem srt_len (L : List Int) : ∀ k, k ≤ L.length → (srt (L.take k)).length = k
  | 0, _ => rfl
  | k + 1, hk => by rw [srt_take (by omega), ins_len, srt_len L k (by omega)]
/-- falling -/
def Fall (O : List Int) : Prop := O.Pairwise fun a b => b ≤ a
theorem ins_mem {x y : Int} {O : List Int} (h : y ∈ ins x O) : y = x ∨ y ∈ O := by
  induction O with
  | nil => simp [ins] at h; exact .inl h
  | cons z O ih =>
    simp only [ins] at h
    split at h
    · simp only [List.mem_cons] at h ⊢
      exact h
    · simp only [List.mem_cons] at h ⊢
      rcases h with h | h
      · exact .inr (.inl h)
      · rcases ih h with h | h
        · exact .inl h
        · exact .inr (.inr h)
theorem ins_fall {x : Int} {O : List Int} (h : Fall O) : Fall (ins x O) := by
  unfold Fall at *
  induction O with
  | nil => simp [ins]
  | cons y O ih =>
    obtain ⟨h1, h2⟩ := List.pairwise_cons.1 h
    simp only [ins]
    split
    · refine List.pairwise_cons.2 ⟨fun a ha => ?_, h⟩
      simp only [List.mem_cons] at ha
      rcases ha with rfl | ha
      · omega
      · have := h1 a ha; omega
    · refine List.pairwise_cons.2 ⟨fun a ha => ?_, ih h2⟩
      rcases ins_mem ha with rfl | ha
      · omega
      · exact h1 a ha
theorem srt_fall (L : List Int) : ∀ k, k ≤ L.length → Fall (srt (L.take k))
  | 0, _ => List.Pairwise.nil
  | k + 1, hk => by rw [srt_take (by omega)]; exact ins_fall (srt_fall L k (by omega))
theorem srt_mem {L : List Int} {y : Int} : ∀ k, k ≤ L.length → y ∈ srt (L.take k) → y ∈ L
  | 0, _, h => by cases h
  | k + 1, hk, h => by
    rw [srt_take (by omega)] at h
    rcases ins_mem h with rfl | h
    · rw [List.getElem?_eq_getElem (show k < L.length by omega)]
      exact List.getElem_mem _
    · exact srt_mem k (by omega) h
theorem ins_at {x : Int} : ∀ {P : List Int} {j : Nat}, j ≤ P.length → (∀ y ∈ P.take j, x ≤ y) → (∀ y ∈ P.drop j, y < x) → ins x P = P.take j ++ x :: P.drop j
  | [], j, _, _, _ => by simp [ins]
  | y :: O, 0, _, _, h2 => by
    have := h2 y (by simp)
    simp [ins, this]
  | y :: O, j + 1, hj, h1, h2 => by
    have := h1 y (by simp)
    simp only [ins]
    rw [if_neg (by omega), ins_at (P := O) (j := j) (by simpa using hj) (fun z hz => h1 z (by simp [hz])) (fun z hz => h2 z (by simpa using hz))]
    simp
/-- what the first k weigh -/
def pre (k : Nat) (O : List Int) : Int := (O.take k).sum
theorem pre_cons (k : Nat) (y : Int) (O : List Int) : pre (k + 1) (y :: O) = y + pre k O := by simp [pre]
theorem pre_zero (O : List Int) : pre 0 O = 0 := rfl
theorem pre_nil (k : Nat) : pre k [] = 0 := by simp [pre]
theorem pre_more {x : Int} : ∀ {O : List Int} {n : Nat}, n ≤ O.length → pre n O + x ≤ pre (n + 1) (ins x O)
  | [], 0, _ => by simp [ins, pre]
  | y :: O, 0, _ => by
    simp only [ins]
    split
    · rw [pre_cons]; simp [pre]
    · rw [pre_cons]; simp only [pre, List.take_zero, List.sum_nil]; omega
  | y :: O, n + 1, hn => by
    simp only [ins]
    split
    · rw [pre_cons (n + 1) x (y :: O)]; omega
    · have := pre_more (x := x) (O := O) (n := n) (by simpa using hn)
      rw [pre_cons, pre_cons]
      omega
theorem pre_tail {y : Int} : ∀ {O : List Int} {n : Nat}, n ≤ O.length → Fall (y :: O) → pre n O ≤ pre n (y :: O)
  | O, 0, _, _ => by simp [pre]
  | z :: O, n + 1, hn, h => by
    rw [pre_cons, pre_cons]
    obtain ⟨h1, h2⟩ := List.pairwise_cons.1 h
    have hz := h1 z (by simp)
    have := pre_tail (y := z) (O := O) (n := n) (by simpa using hn) h2
    omega
theorem pre_same {x : Int} : ∀ {O : List Int} {n : Nat}, n ≤ O.length → Fall O → pre n O ≤ pre n (ins x O)
  | O, 0, _, _ => by simp [pre]
  | y :: O, n + 1, hn, h => by
    simp only [ins]
    split
    · rw [pre_cons, pre_cons]
      have := pre_tail (y := y) (O := O) (n := n) (by simpa using hn) h
      omega
    · have := pre_same (x := x) (O := O) (n := n) (by simpa using hn) (List.pairwise_cons.1 h).2
      rw [pre_cons, pre_cons]
      omega
theorem pre_or {x : Int} : ∀ {O : List Int} {n : Nat}, n ≤ O.length → pre (n + 1) (ins x O) = pre n O + x ∨ (n < O.length ∧ pre (n + 1) (ins x O) = pre (n + 1) O)
  | [], 0, _ => by left; simp [ins, pre]
  | y :: O, 0, _ => by
    simp only [ins]
    split
    · left; rw [pre_cons]; simp [pre]
    · right; exact ⟨by simp, by rw [pre_cons, pre_cons, pre_zero, pre_zero]⟩
  | y :: O, n + 1, hn => by
    simp only [ins]
    split
    · left; rw [pre_cons (n + 1) x (y :: O)]; omega
    · rcases pre_or (x := x) (O := O) (n := n) (by simpa using hn) with h | ⟨h1, h2⟩
      · left; rw [pre_cons, pre_cons, h]; omega
      · right; exact ⟨by simpa using h1, by rw [pre_cons, pre_cons, h2]⟩
theorem ins_sum (x : Int) (O : List Int) : (ins x O).sum = O.sum + x := by
  induction O with
  | nil => simp [ins]
  | cons y O ih =>
    simp only [ins]
    split
    · simp; omega
    · simp [ih]; omega
theorem srt_sum (L : List Int) : ∀ k, k ≤ L.length → (srt (L.take k)).sum = (L.take k).sum
  | 0, _ => rfl
  | k + 1, hk => by
    rw [srt_take (by omega), ins_sum, srt_sum L k (by omega), take_sum (by omega)]
/-- how many of the first k are in a set -/
def sz (s : Nat) : Nat → Nat
  | 0 => 0
  | k + 1 => sz s k + if bt s k = true then 1 else 0
theorem sz_le (s k : Nat) : sz s k ≤ k := by
  induction k with
  | zero => simp [sz]
  | succ k ih => simp only [sz]; split <;> omega
/-- no set weighs more than as many of the heaviest -/
theorem sm_le (L : List Int) (s : Nat) : ∀ k, k ≤ L.length → sm L s k ≤ pre (sz s k) (srt (L.take k))
  | 0, _ => by simp [sm, sz, pre]
  | k + 1, hk => by
    have ih := sm_le L s k (by omega)
    have hl := srt_len L k (by omega)
    have hs := sz_le s k
    rw [srt_take (by omega)]
    simp only [sm, sz]
    split
    · have := pre_more (x := L[k]?.getD 0) (O := srt (L.take k)) (n := sz s k) (by omega)
      omega
    · have := pre_same (x := L[k]?.getD 0) (O := srt (L.take k)) (n := sz s k) (by omega) (srt_fall L k (by omega))
      rw [Nat.add_zero, Int.add_zero]
      omega
theorem pre_drop {O : List Int} (h : Fall O) : ∀ m k, m + k ≤ O.length → pre k (O.drop m) ≤ pre k O
  | 0, k, _ => by simp
  | m + 1, k, hk => by
    have h1 := pre_drop h m k (by omega)
    have hm : m < O.length := by omega
    have e : O.drop m = O[m] :: O.drop (m + 1) := List.drop_eq_getElem_cons hm
    have h2 : Fall (O.drop m) := List.Pairwise.sublist (List.drop_sublist m O) h
    rw [e] at h1 h2
    have h3 := pre_tail (y := O[m]) (O := O.drop (m + 1)) (n := k) (by rw [List.length_drop]; omega) h2
    omega
/-- the first m and as many as are left over weigh all -/
theorem pre_both {O : List Int} (h : Fall O) {m : Nat} (hm : m ≤ O.length) : O.sum ≤ pre m O + pre (O.length - m) O := by
  have h1 := pre_drop h m (O.length - m) (by omega)
  have e : pre (O.length - m) (O.drop m) = (O.drop m).sum := by unfold pre; rw [List.take_of_length_le (by rw [List.length_drop]; omega)]
  have e2 : O.sum = (O.take m).sum + (O.drop m).sum := by rw [← List.sum_append, List.take_append_drop]
  rw [e] at h1
  rw [e2]
  unfold pre
  unfold pre at h1
  omega
theorem pre_succ {O : List Int} {k : Nat} (hk : k < O.length) : pre (k + 1) O = pre k O + O[k]?.getD 0 := take_sum hk
theorem pre_all (O : List Int) : pre O.length O = O.sum := by unfold pre; rw [List.take_length]
end Go.Proofs.Ytegpniiokiejhaa
