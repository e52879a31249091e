/-
  The plain mathematics of layer 9 (node), further: a page read pair by pair, as far as it goes: it tells the same node; nothing of any program.
-/
import Derived.Test.YtjlglfhnnipjaaaNodeMath
namespace Go.Proofs.Ytjlglfhnnipjaaa.Nd
open Oct (numB tN tR tE txt)
/-- the pairs that bytes begin with, as many as stand there -/
def greedy : Nat → ByteArray → List (ByteArray × ByteArray)
  | 0, _ => []
  | k + 1, s => if (txt s 48).2.2 ≠ 0 then [] else if (txt (txt s 48).2.1 160).2.2 ≠ 0 then [] else ((txt s 48).1, (txt (txt s 48).2.1 160).1) :: greedy k (txt (txt s 48).2.1 160).2.1
theorem greedy_back (L : List (ByteArray × ByteArray)) (r : ByteArray) (h : ∀ x ∈ L, x.1.size ≤ 48 ∧ x.2.size ≤ 160) : greedy L.length (pairsB L ++ r) = L := by
  induction L with
  | nil => rfl
  | cons x t ih =>
    obtain ⟨h1, h2⟩ := h x (List.mem_cons_self ..)
    have e : pairsB (x :: t) ++ r = numB x.1.size ++ x.1 ++ (numB x.2.size ++ x.2 ++ (pairsB t ++ r)) := by
      show pairB x ++ pairsB t ++ r = _
      unfold pairB txtB
      simp only [ByteArray.append_assoc]
    have a := Oct.txt_back x.1 (numB x.2.size ++ x.2 ++ (pairsB t ++ r)) 48 (by omega) (by omega)
    have b := Oct.txt_back x.2 (pairsB t ++ r) 160 (by omega) (by omega)
    rw [e]
    show (if _ then _ else _) = _
    rw [a, if_neg (by simp), b, if_neg (by simp), ih (fun y hy => h y (List.mem_cons_of_mem _ hy))]
/-- what a node's page is, part by part -/
theorem put_parts {n : Node} (h : checkE n = 0) : (put n).size = 480 ∧ (put n).extract 0 1 = kindB n.leaf ∧ tE ((put n).extract 1 480) = 0 ∧ tN ((put n).extract 1 480) = n.L.length ∧ ∃ r, tR ((put n).extract 1 480) = pairsB n.L ++ r := by
  obtain ⟨hr, hsz⟩ := check_ok h
  have hps := put_size h
  have hp : put n = kindB n.leaf ++ (numB n.L.length ++ (pairsB n.L ++ zer (480 - (text n).size))) := by
    unfold put
    rw [if_neg (fun hn => hn h)]
    unfold text
    simp only [ByteArray.append_assoc]
  have hl : n.L.length ≤ 480 := by
    have h1 := pairsB_size n.L (fun x hx => (hr.2.1 x hx).1)
    have h2 : (pairsB n.L).size ≤ (text n).size := by unfold text; rw [ByteArray.size_append]; omega
    omega
  obtain ⟨k1, k2⟩ := kind_ext n.leaf (numB n.L.length ++ (pairsB n.L ++ zer (480 - (text n).size)))
  have hs2 : 1 + (numB n.L.length ++ (pairsB n.L ++ zer (480 - (text n).size))).size = 480 := by
    have : (kindB n.leaf).size = 1 := by cases n.leaf <;> rfl
    rw [hp, ByteArray.size_append, this] at hps
    exact hps
  rw [hs2] at k2
  rw [← hp] at k1 k2
  obtain ⟨a1, a2, a3⟩ := Oct.tE_back (n.L.length : Int) (pairsB n.L ++ zer (480 - (text n).size)) (by omega) (by omega)
  exact ⟨hps, k1, by rw [k2]; exact a3, by rw [k2]; exact a1, _, by rw [k2]; exact a2⟩
/-- the node that a page is read as -/
def took (page : ByteArray) : Node := ⟨decide (page.extract 0 1 = ⟨#[1]⟩), greedy (tN (page.extract 1 480)).toNat (tR (page.extract 1 480))⟩
theorem kind_dec (b : Bool) : decide (kindB b = ⟨#[1]⟩) = b := by
  cases b with
  | true => exact decide_eq_true rfl
  | false => exact decide_eq_false (by intro he; exact absurd (congrArg (fun b : ByteArray => b.data.toList) he) (by decide))
theorem took_put {n : Node} (h : checkE n = 0) : took (put n) = n := by
  obtain ⟨_, h1, _, h3, r, h4⟩ := put_parts h
  obtain ⟨hr, _⟩ := check_ok h
  unfold took
  rw [h1, h3, h4, kind_dec, Int.toNat_natCast, greedy_back n.L r (fun x hx => fits_small (hr.2.1 x hx))]
theorem take_four {page : ByteArray} (h : (take page).2 ≠ 0) : take page = (none, 4) := by
  have h1 := take_err h
  have h2 : (take page).2 = 4 := by
    unfold take at h ⊢
    split
    · rfl
    · rename_i hs
      rw [if_neg hs] at h
      split
      · rfl
      · rename_i n hn
        rw [hn] at h
        split
        · rename_i hc
          exact absurd (show (if checkE n = 0 ∧ put n = page then ((n, 0) : Node × Int) else (none, 4)).2 = 0 by rw [if_pos hc]) h
        · rfl
  exact Prod.ext h1 h2
/-- a page that is its node's is taken as it -/
theorem take_took {page : ByteArray} (h1 : checkE (took page) = 0) (h2 : put (took page) = page) : take page = (took page, 0) := by
  have := take_put h1
  rwa [h2] at this
/-- .. another one is none's -/
theorem take_not {page : ByteArray} (h : ¬ (checkE (took page) = 0 ∧ put (took page) = page)) : take page = (none, 4) := by
  refine take_four fun h0 => h ?_
  obtain ⟨h1, h2⟩ := take_ok h0
  have h3 := took_put h1
  rw [h2] at h3
  rw [h3]
  exact ⟨h1, h2⟩
theorem take_size {page : ByteArray} (h : page.size ≠ 480) : take page = (none, 4) := by unfold take; rw [if_pos h]
theorem take_num {page : ByteArray} (h : tE (page.extract 1 480) ≠ 0) : take page = (none, 4) := by
  refine take_four fun h0 => ?_
  obtain ⟨h1, h2⟩ := take_ok h0
  obtain ⟨_, _, h3, _⟩ := put_parts h1
  rw [h2] at h3
  exact h h3
/-- a page that has fewer pairs than it says is none's -/
theorem take_short {page : ByteArray} (h : ((greedy (tN (page.extract 1 480)).toNat (tR (page.extract 1 480))).length : Int) < tN (page.extract 1 480)) : take page = (none, 4) := by
  refine take_not fun hc => ?_
  obtain ⟨_, _, _, h3, _⟩ := put_parts hc.1
  rw [hc.2] at h3
  have e : (took page).L = greedy (tN (page.extract 1 480)).toNat (tR (page.extract 1 480)) := rfl
  rw [e] at h3
  omega
theorem txt_len (s : ByteArray) (most : Int) (hm : 0 ≤ most) : (txt s most).1.size ≤ most.toNat ∧ (txt s most).2.1.size ≤ s.size ∧ ((txt s most).2.2 = 0 → (txt s most).2.1.size < s.size ∧ (txt s most).1.size < s.size) := by
  rcases Oct.cnt3_cases s most with ⟨e, he, h⟩ | ⟨n, r, h1, h2, h3, h, _⟩
  · rw [Oct.txt_err he h]
    exact ⟨Nat.zero_le _, Nat.zero_le _, fun hx => absurd hx he⟩
  · by_cases hs : r.size < n
    · rw [Oct.txt_short h hs]
      exact ⟨Nat.zero_le _, Nat.zero_le _, fun hx => absurd hx (by decide)⟩
    · rw [Oct.txt_ok h hs]
      refine ⟨?_, ?_, fun _ => ⟨?_, ?_⟩⟩ <;> (try show (ByteArray.extract _ _ _).size ≤ _) <;> (try show (ByteArray.extract _ _ _).size < _) <;> rw [ByteArray.size_extract] <;> omega
/-- .. and they may be pairs, and are fewer than the bytes -/
theorem greedy_small : ∀ (k : Nat) (s : ByteArray), (∀ x ∈ greedy k s, x.1.size ≤ 48 ∧ x.2.size ≤ 160) ∧ (greedy k s).length ≤ s.size
  | 0, _ => ⟨fun _ h => by simp [greedy] at h, Nat.zero_le _⟩
  | k + 1, s => by
    unfold greedy
    split
    · exact ⟨fun _ h => by simp at h, Nat.zero_le _⟩
    · rename_i h1
      split
      · exact ⟨fun _ h => by simp at h, Nat.zero_le _⟩
      · rename_i h2
        obtain ⟨i1, i2⟩ := greedy_small k (txt (txt s 48).2.1 160).2.1
        obtain ⟨a1, a2, a3⟩ := txt_len s 48 (by decide)
        obtain ⟨b1, b2, b3⟩ := txt_len (txt s 48).2.1 160 (by decide)
        refine ⟨fun x hx => ?_, ?_⟩
        · rcases List.mem_cons.1 hx with rfl | hx
          · exact ⟨a1, b1⟩
          · exact i1 x hx
        · rw [List.length_cons]
          have := a3 (Classical.not_not.1 h1)
          omega
end Go.Proofs.Ytjlglfhnnipjaaa.Nd
