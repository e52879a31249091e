/-
  The plain mathematics of layer 6 (label): a label's bytes, and what bytes are parsed as; nothing of any program.
-/
import Derived.Test.YtpniegglbglbcaaDoorOctMath3
import Derived.Test.YtpniegglbglbcaaDoorSealMath
namespace Go.Proofs.YtpniegglbglbcaaDoor.Lb
open Oct (numB tN tR tE txt)
structure Label where
  turn : Int
  tail : Int
  head : Int
  note : ByteArray
def no : Label := ⟨0, 0, 0, ⟨#[]⟩⟩
def right (l : Label) : Prop := 1 ≤ l.turn ∧ l.turn ≤ 4611686018427387904 ∧ 0 ≤ l.tail ∧ l.tail ≤ l.head ∧ l.head ≤ 1125899906842624 ∧ l.note.size ≤ 400
instance (l : Label) : Decidable (right l) := by unfold right; infer_instance
def text (l : Label) : ByteArray := numB l.tail ++ numB l.head ++ (numB l.note.size ++ l.note)
def bytesE (l : Label) : Int := if right l then 0 else 2
def bytes (l : Label) : ByteArray := if right l then text l else ⟨#[]⟩
/-- the label that the bytes tell, if they tell one -/
def told (turn : Int) (s : ByteArray) : Label := ⟨turn, tN s, tN (tR s), (txt (tR (tR s)) 400).1⟩
def parse (turn : Int) (s : ByteArray) : Label × Int :=
  if tE s ≠ 0 ∨ tE (tR s) ≠ 0 ∨ (txt (tR (tR s)) 400).2.2 ≠ 0 ∨ (txt (tR (tR s)) 400).2.1 ≠ ⟨#[]⟩ ∨ ¬ right (told turn s) then (no, 4) else (told turn s, 0)
/-- what is taken as a text has just those bytes -/
theorem txt_only {s a r : ByteArray} {most : Int} (h : txt s most = (a, r, 0)) : numB a.size ++ a ++ r = s := by
  rcases Oct.cnt3_cases s most with ⟨e, he, h1⟩ | ⟨n, r', _, _, _, h1, h2⟩
  · rw [Oct.txt_err he h1] at h
    exact absurd (congrArg (fun x => x.2.2) h) he
  · by_cases h3 : r'.size < n
    · rw [Oct.txt_short h1 h3] at h
      have h4 : (3 : Int) = 0 := congrArg (fun x => x.2.2) h
      exact absurd h4 (by decide)
    · rw [Oct.txt_ok h1 h3] at h
      obtain ⟨rfl, rfl⟩ : r'.extract 0 n = a ∧ r'.extract n r'.size = r := ⟨congrArg (fun x => x.1) h, congrArg (fun x => x.2.1) h⟩
      have hn : (r'.extract 0 n).size = n := by rw [ByteArray.size_extract]; omega
      rw [hn, ByteArray.append_assoc, ← h2]
      congr 1
      apply Sl.ba_ext
      rw [ByteArray.data_append, Array.toList_append, Oct.extract_drop, Sl.ext_first, List.take_append_drop]
theorem num_only {s : ByteArray} (h : tE s = 0) : numB (tN s) ++ tR s = s := by
  rcases Oct.t_cases s with ⟨_, _, h1 | h1⟩ | ⟨n, r, _, _, _, e1, e2, _, e4⟩
  · rw [h] at h1; exact absurd h1 (by decide)
  · rw [h] at h1; exact absurd h1 (by decide)
  · rw [e1, e2]; exact e4
theorem empty_right (a : ByteArray) : a ++ (⟨#[]⟩ : ByteArray) = a := by
  apply Sl.ba_ext; rw [ByteArray.data_append, Array.toList_append]; exact List.append_nil _
theorem parse_text {l : Label} (h : right l) : parse l.turn (text l) = (l, 0) := by
  obtain ⟨h1, h2, h3, h4, h5, h6⟩ := h
  obtain ⟨a1, a2, a3⟩ := Oct.tE_back l.tail (numB l.head ++ (numB l.note.size ++ l.note)) (by omega) (by omega)
  obtain ⟨b1, b2, b3⟩ := Oct.tE_back l.head (numB l.note.size ++ l.note) (by omega) (by omega)
  have c := Oct.txt_back l.note ⟨#[]⟩ 400 (by omega) (by omega)
  rw [empty_right] at c
  have e : text l = numB l.tail ++ (numB l.head ++ (numB l.note.size ++ l.note)) := by unfold text; rw [ByteArray.append_assoc]
  have ht : told l.turn (text l) = l := by unfold told; rw [e, a1, a2, b1, b2, c]
  unfold parse
  rw [ht, e, a3, a2, b3, b2, c]
  rw [if_neg]
  rintro (h | h | h | h | h)
  · exact h rfl
  · exact h rfl
  · exact h rfl
  · exact h rfl
  · exact h ⟨h1, h2, h3, h4, h5, h6⟩
theorem parse_ok {t : Int} {s : ByteArray} (h : (parse t s).2 = 0) : right (parse t s).1 ∧ (parse t s).1.turn = t ∧ text (parse t s).1 = s := by
  unfold parse at h ⊢
  split at h
  · exact absurd h (by decide)
  · rename_i hc
    rw [if_neg hc]
    have e1 : tE s = 0 := Classical.byContradiction fun x => hc (.inl x)
    have e2 : tE (tR s) = 0 := Classical.byContradiction fun x => hc (.inr (.inl x))
    have e3 : (txt (tR (tR s)) 400).2.2 = 0 := Classical.byContradiction fun x => hc (.inr (.inr (.inl x)))
    have e4 : (txt (tR (tR s)) 400).2.1 = ⟨#[]⟩ := Classical.byContradiction fun x => hc (.inr (.inr (.inr (.inl x))))
    have e5 : right (told t s) := Classical.byContradiction fun x => hc (.inr (.inr (.inr (.inr x))))
    refine ⟨e5, rfl, ?_⟩
    have n1 := num_only e1
    have n2 := num_only e2
    have n3 := txt_only (s := tR (tR s)) (most := 400) (a := (txt (tR (tR s)) 400).1) (r := ⟨#[]⟩) (by rw [← e4, ← e3])
    rw [empty_right] at n3
    show numB (tN s) ++ numB (tN (tR s)) ++ (numB ((txt (tR (tR s)) 400).1.size : Nat) ++ (txt (tR (tR s)) 400).1) = s
    rw [n3, ByteArray.append_assoc, n2, n1]
theorem parse_err {t : Int} {s : ByteArray} (h : (parse t s).2 ≠ 0) : (parse t s).1 = no := by
  unfold parse at h ⊢
  split
  · rfl
  · rename_i hc; rw [if_neg hc] at h; exact absurd rfl h
theorem bytes_ok {l : Label} (h : bytesE l = 0) : right l ∧ bytes l = text l := by
  unfold bytesE at h
  split at h
  · rename_i hr; exact ⟨hr, by unfold bytes; rw [if_pos hr]⟩
  · exact absurd h (by decide)
end Go.Proofs.YtpniegglbglbcaaDoor.Lb
