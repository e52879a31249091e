/-
  The plain mathematics of layer 9 (node), further: how many pairs go into a page; a node's parts; how few they can be. (Of the program's texts it uses NodRef's plain words alone.)
-/
import Derived.Test.YtjlglfhnnipjaaaNodRight
import Derived.Test.YtjlglfhnnipjaaaNodeMath
namespace Go.Proofs.Ytjlglfhnnipjaaa
namespace Oct
theorem num_mono : ∀ (b a : Nat), a ≤ b → (num a).length ≤ (num b).length := by
  intro b
  induction b using Nat.strongRecOn with
  | _ b ih =>
    intro a hab
    by_cases hb : b < 128
    · rw [num_small a (by omega), num_small b hb]; exact Nat.le_refl _
    · rw [num_great b (by omega), List.length_cons]
      by_cases ha : a < 128
      · rw [num_small a ha]; simp
      · rw [num_great a (by omega), List.length_cons]
        have := ih (b / 128) (by omega) (a / 128) (by omega)
        omega
theorem numB_mono (a b : Nat) (h : a ≤ b) : (numB a).size ≤ (numB b).size := by
  have e : ∀ n : Nat, (numB n).size = (num (codeN n)).length := fun n => by unfold numB; show (num (codeN n)).toArray.size = _; simp
  rw [e, e]
  refine num_mono _ _ ?_
  unfold codeN
  rw [if_neg (by omega), if_neg (by omega)]
  omega
theorem numB_two (n : Nat) (h : n < 8192) : (numB n).size ≤ 2 := by
  have e : (numB n).size = (num (codeN n)).length := by unfold numB; show (num (codeN n)).toArray.size = _; simp
  rw [e]
  refine num_len 2 _ ?_ (by omega)
  unfold codeN
  rw [if_neg (by omega)]
  omega
theorem numB_onebyte (n : Nat) (h : n < 64) : (numB n).size ≤ 1 := by
  have e : (numB n).size = (num (codeN n)).length := by unfold numB; show (num (codeN n)).toArray.size = _; simp
  rw [e]
  refine num_len 1 _ ?_ (by omega)
  unfold codeN
  rw [if_neg (by omega)]
  omega
end Oct
namespace Nd
abbrev Prs := List (ByteArray × ByteArray)
/-- how many bytes a node of the first k pairs has -/
def sz (leaf : Bool) (L : Prs) : Nat := (text ⟨leaf, L⟩).size
theorem sz_eq (leaf : Bool) (L : Prs) : sz leaf L = 1 + (Oct.numB L.length).size + (pairsB L).size := by
  have h1 : (kindB leaf).size = 1 := by cases leaf <;> rfl
  unfold sz text
  rw [ByteArray.size_append, ByteArray.size_append, h1]
theorem sz_app (leaf : Bool) (A B : Prs) : sz leaf A ≤ sz leaf (A ++ B) := by
  rw [sz_eq, sz_eq, pairsB_app, ByteArray.size_append, List.length_append]
  have := Oct.numB_mono A.length (A.length + B.length) (by omega)
  have e : ((A.length + B.length : Nat) : Int) = (A.length : Int) + (B.length : Int) := by omega
  omega
theorem sz_take (leaf : Bool) (L : Prs) (i j : Nat) (h : i ≤ j) : sz leaf (L.take i) ≤ sz leaf (L.take j) := by
  have e : L.take j = L.take i ++ (L.take j).drop i := by
    have := List.take_append_drop i (L.take j)
    rw [List.take_take, Nat.min_eq_left h] at this
    exact this.symm
  rw [e]
  exact sz_app leaf _ _
def fitR (leaf : Bool) (L : Prs) : Nat → Nat
  | 0 => 0
  | k + 1 => if sz leaf (L.take (k + 1)) ≤ 480 then k + 1 else fitR leaf L k
/-- how many of the first pairs go into one page -/
def fit (leaf : Bool) (L : Prs) : Nat := fitR leaf L L.length
theorem fitR_spec (leaf : Bool) (L : Prs) : ∀ n, fitR leaf L n ≤ n ∧ (fitR leaf L n = 0 ∨ sz leaf (L.take (fitR leaf L n)) ≤ 480) ∧ ∀ k, fitR leaf L n < k → k ≤ n → 480 < sz leaf (L.take k)
  | 0 => ⟨Nat.le_refl _, .inl rfl, fun k h1 h2 => by have : fitR leaf L 0 = 0 := rfl; omega⟩
  | n + 1 => by
    obtain ⟨h1, h2, h3⟩ := fitR_spec leaf L n
    by_cases h : sz leaf (L.take (n + 1)) ≤ 480
    · have e : fitR leaf L (n + 1) = n + 1 := if_pos h
      rw [e]
      exact ⟨Nat.le_refl _, .inr h, fun k a b => by omega⟩
    · have e : fitR leaf L (n + 1) = fitR leaf L n := if_neg h
      rw [e]
      refine ⟨by omega, h2, fun k a b => ?_⟩
      rcases Nat.lt_or_ge n k with c | c
      · have : k = n + 1 := by omega
        rw [this]; omega
      · exact h3 k a c
theorem fit_le (leaf : Bool) (L : Prs) : fit leaf L ≤ L.length := (fitR_spec leaf L L.length).1
theorem fit_unique {leaf : Bool} {L : Prs} {n : Nat} (h1 : n ≤ L.length) (h2 : n = 0 ∨ sz leaf (L.take n) ≤ 480) (h3 : n < L.length → 480 < sz leaf (L.take (n + 1))) : fit leaf L = n := by
  obtain ⟨a1, a2, a3⟩ := fitR_spec leaf L L.length
  have e : fit leaf L = fitR leaf L L.length := rfl
  rw [← e] at a1 a2 a3
  rcases Nat.lt_trichotomy (fit leaf L) n with h | h | h
  · have := a3 n h h1
    omega
  · exact h
  · have b := h3 (by omega)
    have c := sz_take leaf L (n + 1) (fit leaf L) (by omega)
    omega
theorem fit_ok (leaf : Bool) (L : Prs) (h : fit leaf L ≠ 0) : sz leaf (L.take (fit leaf L)) ≤ 480 := (fitR_spec leaf L L.length).2.1.resolve_left h
theorem fit_all {leaf : Bool} {L : Prs} (h : sz leaf L ≤ 480) : fit leaf L = L.length := fit_unique (Nat.le_refl _) (.inr (by rw [List.take_length]; exact h)) (fun x => absurd x (Nat.lt_irrefl _))
/-- a pair that may be has room -/
theorem one_fits {leaf : Bool} {x : ByteArray × ByteArray} (h : fits leaf x) : sz leaf [x] ≤ 480 := by
  obtain ⟨h1, h2⟩ := fits_small h
  rw [sz_eq]
  show 1 + (Oct.numB ((1 : Nat) : Int)).size + (pairB x ++ ⟨#[]⟩).size ≤ 480
  have e : (pairB x ++ (⟨#[]⟩ : ByteArray)).size = (Oct.numB x.1.size).size + x.1.size + ((Oct.numB x.2.size).size + x.2.size) := by
    rw [ByteArray.size_append]
    unfold pairB txtB
    rw [ByteArray.size_append, ByteArray.size_append, ByteArray.size_append]
    rfl
  rw [e]
  have a := Oct.numB_onebyte 1 (by omega)
  have b := Oct.numB_onebyte x.1.size (by omega)
  have c := Oct.numB_two x.2.size (by omega)
  omega
theorem fit_pos {leaf : Bool} {L : Prs} (hL : L ≠ []) (h : ∀ x ∈ L, fits leaf x) : 1 ≤ fit leaf L := by
  obtain ⟨a1, a2, a3⟩ := fitR_spec leaf L L.length
  rcases Nat.eq_zero_or_pos (fit leaf L) with h0 | h0
  · have h4 := a3 1 (by show fit leaf L < 1; omega) (List.length_pos_iff.2 hL)
    obtain ⟨x, r, rfl⟩ : ∃ x r, L = x :: r := by cases L with | nil => exact absurd rfl hL | cons x r => exact ⟨x, r, rfl⟩
    have h5 := one_fits (h x (List.mem_cons_self ..))
    have e : (x :: r).take 1 = [x] := rfl
    rw [e] at h4
    omega
  · exact h0
/-- a node's pairs, part by part -/
inductive PartsOf (leaf : Bool) : Prs → List Prs → Prop
  | nil : PartsOf leaf [] []
  | cons {L : Prs} {P : List Prs} : L ≠ [] → PartsOf leaf (L.drop (fit leaf L)) P → PartsOf leaf L (L.take (fit leaf L) :: P)
theorem parts_flat {leaf : Bool} {L : Prs} {P : List Prs} (h : PartsOf leaf L P) : P.flatten = L := by
  induction h with
  | nil => rfl
  | cons _ _ ih => rw [List.flatten_cons, ih, List.take_append_drop]
theorem rising_take : ∀ (L : Prs) (n : Nat), rising L → rising (L.take n)
  | [], n, _ => by rw [List.take_nil]; trivial
  | x :: r, 0, _ => trivial
  | [x], n + 1, _ => by show rising (x :: ([] : Prs).take n); rw [List.take_nil]; trivial
  | x :: y :: r, 1, _ => trivial
  | x :: y :: r, n + 2, h => ⟨h.1, rising_take (y :: r) (n + 1) h.2⟩
theorem rising_drop : ∀ (L : Prs) (n : Nat), rising L → rising (L.drop n)
  | L, 0, h => h
  | [], n + 1, _ => trivial
  | [x], n + 1, _ => by show rising (([] : Prs).drop n); rw [List.drop_nil]; trivial
  | x :: y :: r, n + 1, h => rising_drop (y :: r) n h.2
/-- each part of a right node is right, and has room -/
theorem parts_right {leaf : Bool} {L : Prs} {P : List Prs} (h : PartsOf leaf L P) : (∀ x ∈ L, fits leaf x) → rising L → ∀ p ∈ P, checkE ⟨leaf, p⟩ = 0 := by
  induction h with
  | nil => intro _ _ p hp; simp at hp
  | @cons L P hL _ ih =>
    intro h1 h2 p hp
    have hf := fit_pos hL h1
    rcases List.mem_cons.1 hp with rfl | hp
    · have hr : right ⟨leaf, L.take (fit leaf L)⟩ := by
        refine ⟨?_, fun x hx => h1 x (List.mem_of_mem_take hx), rising_take L _ h2⟩
        show L.take (fit leaf L) ≠ []
        intro e
        have := congrArg List.length e
        rw [List.length_take, List.length_nil] at this
        have := List.length_pos_iff.2 hL
        omega
      have hs := fit_ok leaf L (by omega)
      unfold checkE
      rw [if_neg (fun x => x hr), if_neg (by show ¬ 480 < sz leaf _; omega)]
    · exact ih (fun x hx => h1 x (List.mem_of_mem_drop hx)) (rising_drop L _ h2) p hp
theorem parts_unique {leaf : Bool} {L : Prs} {P : List Prs} (h : PartsOf leaf L P) : ∀ {Q}, PartsOf leaf L Q → P = Q := by
  induction h with
  | nil =>
    intro Q hq
    generalize hL : ([] : Prs) = L at hq
    cases hq with
    | nil => rfl
    | cons h _ => exact absurd hL.symm h
  | @cons L P hL _ ih =>
    intro Q hq
    cases hq with
    | nil => exact absurd rfl hL
    | cons _ h2 => rw [ih h2]
theorem parts_one {leaf : Bool} {L : Prs} {P : List Prs} (h : PartsOf leaf L P) (hL : L ≠ []) (hs : sz leaf L ≤ 480) : P = [L] := by
  refine parts_unique h ?_
  have hf := fit_all hs
  have := PartsOf.cons (leaf := leaf) (L := L) (P := []) hL (by rw [hf, List.drop_length]; exact .nil)
  rwa [hf, List.take_length] at this
/-- no more parts than pairs -/
theorem parts_len {leaf : Bool} {L : Prs} {P : List Prs} (h : PartsOf leaf L P) : (∀ x ∈ L, fits leaf x) → P.length ≤ L.length := by
  induction h with
  | nil => exact fun _ => Nat.le_refl _
  | @cons L P hL _ ih =>
    intro hf
    have h1 := fit_pos hL hf
    have h2 := ih (fun x hx => hf x (List.mem_of_mem_drop hx))
    have h3 := fit_le leaf L
    rw [List.length_drop] at h2
    rw [List.length_cons]
    omega
/-- how few: as the document counts -/
def few (leaf : Bool) : Prs → Prs → Nat → Nat
  | [], _, c => c + 1
  | x :: r, now, c => if 480 < sz leaf (now ++ [x]) then few leaf r [x] (c + 1) else few leaf r (now ++ [x]) c
theorem few_parts {leaf : Bool} : ∀ (r now : Prs) (c : Nat), now ≠ [] → sz leaf now ≤ 480 → (∀ x ∈ r, fits leaf x) → ∀ P, PartsOf leaf (now ++ r) P → few leaf r now c = c + P.length
  | [], now, c, hn, hs, _, P, hp => by
    rw [List.append_nil] at hp
    rw [parts_one hp hn hs]; rfl
  | x :: r, now, c, hn, hs, hf, P, hp => by
    show (if _ then _ else _) = _
    have hx := one_fits (hf x (List.mem_cons_self ..))
    by_cases h : 480 < sz leaf (now ++ [x])
    · rw [if_pos h]
      have hfit : fit leaf (now ++ x :: r) = now.length := by
        refine fit_unique (by rw [List.length_append]; omega) (.inr (by rw [List.take_left']; exact hs; rfl)) (fun _ => ?_)
        have e : (now ++ x :: r).take (now.length + 1) = now ++ [x] := by
          rw [List.take_append, List.take_of_length_le (by omega), Nat.add_sub_cancel_left]; rfl
        rw [e]; exact h
      generalize hL : now ++ x :: r = L at hp
      cases hp with
      | nil => exact absurd hL (by simp)
      | cons _ h2 =>
        subst hL
        rw [hfit, List.drop_left'] at h2
        · have := few_parts r [x] (c + 1) (by simp) hx (fun y hy => hf y (List.mem_cons_of_mem _ hy)) _ h2
          rw [this, List.length_cons]; omega
        · rfl
    · rw [if_neg h]
      have hp' : PartsOf leaf (now ++ [x] ++ r) P := by rw [List.append_assoc]; exact hp
      exact few_parts r (now ++ [x]) c (by simp) (by omega) (fun y hy => hf y (List.mem_cons_of_mem _ hy)) P hp'
/-- a right node's parts are as few as the document counts -/
theorem few_is {leaf : Bool} {L : Prs} {P : List Prs} (hL : L ≠ []) (h : ∀ x ∈ L, fits leaf x) (hp : PartsOf leaf L P) : few leaf L [] 0 = P.length := by
  cases L with
  | nil => exact absurd rfl hL
  | cons x r =>
    have hx := one_fits (h x (List.mem_cons_self ..))
    have e : few leaf (x :: r) [] 0 = few leaf r [x] 0 := by
      show (if 480 < sz leaf ([] ++ [x]) then _ else _) = _
      rw [if_neg (by rw [List.nil_append]; omega)]; rfl
    rw [e, few_parts r [x] 0 (by simp) hx (fun y hy => h y (List.mem_cons_of_mem _ hy)) P hp]
    omega
end Nd
end Go.Proofs.Ytjlglfhnnipjaaa
