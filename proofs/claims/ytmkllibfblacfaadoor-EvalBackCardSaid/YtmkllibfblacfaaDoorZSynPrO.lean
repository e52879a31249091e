/-
  Layer 14, the program's: Parse.
-/
import Derived.Test.YtmkllibfblacfaaDoorZSynPrA
import Derived.Test.YtmkllibfblacfaaDoorZSynDeep
import Derived.Test.YtmkllibfblacfaaDoorPk6
namespace Go.Proofs.YtmkllibfblacfaaDoor
open Go.RowKit
open Sx (X toksOf isT)
namespace Lx
theorem lex_len : ∀ (k a : Nat) (l : List UInt8), (lex k a l).1.length ≤ k
  | 0, _, _ => Nat.le_refl _
  | _ + 1, _, [] => Nat.zero_le _
  | k + 1, a, c :: r => by
    by_cases hc : c = 32
    · subst hc
      rw [lex_blank]
      have := lex_len k (a + 1) r
      omega
    · by_cases he : (one (c :: r)).2.2 = 0
      · rw [lex_more hc he]
        split
        · exact Nat.zero_le _
        · have := lex_len k (a + (one (c :: r)).2.1) ((c :: r).drop (one (c :: r)).2.1)
          simp only [List.length_cons]
          omega
      · rw [lex_err hc he]; exact Nat.zero_le _
theorem right_size {t : T} (h : right t) : t.s.size ≤ 1000000 := by
  obtain ⟨k, s, n, a⟩ := t
  rcases h with ⟨rfl, _, _, _, h⟩ | ⟨rfl, h, h2⟩ | ⟨rfl, _, h9⟩ | ⟨rfl, h, _⟩
  · have : s.size ≤ 16 := h
    show s.size ≤ _; omega
  · have : s = Vl.mt := h2
    show s.size ≤ _; rw [this]; exact Nat.zero_le _
  · have : s.size ≤ 40 := h9.1
    show s.size ≤ _; omega
  · have hm : ∀ m ∈ marks, m.length ≤ 85 := by decide
    have h1 := hm _ h
    have hl : s.data.toList.length = s.size := Array.length_toList ..
    show s.size ≤ _
    have h2 : s.data.toList.length ≤ 85 := h1
    omega
theorem laid_spots : ∀ (m : List T) (s : List UInt8) (e : Nat), Laid s e m → ∀ t ∈ m, 0 ≤ t.spot ∧ t.spot ≤ s.length
  | [], _, _, _, _, ht => by cases ht
  | u :: m, s, e, h, t, ht => by
    obtain ⟨a, h0, _, h2, _, _, _, _, h3⟩ := h
    rcases List.mem_cons.1 ht with rfl | ht
    · rw [h0]; omega
    · exact laid_spots m s _ h3 t ht
end Lx
/-- the tokens of a text -/
theorem lexS_toks (s : ByteArray) : (∀ t ∈ (lexS s).1, (Lx.right t ∧ t.n ≤ Lx.maxI) ∧ t.s.size ≤ 1000000 ∧ 0 ≤ t.spot ∧ t.spot ≤ s.size) ∧ (lexS s).1.length ≤ 200 ∧ ((lexS s).2.2 ≠ 0 → 0 ≤ (lexS s).2.1 ∧ (lexS s).2.1 ≤ s.size) := by
  have hl : s.data.toList.length = s.size := Array.length_toList ..
  by_cases h : (lexS s).2.2 = 0
  · obtain ⟨_, h2⟩ := lexS_laid h
    refine ⟨fun t ht => ?_, ?_, fun h3 => absurd h h3⟩
    · have h4 := Lx.laid_right _ _ _ h2 t ht
      have h5 := Lx.laid_spots _ _ _ h2 t ht
      exact ⟨h4, Lx.right_size h4.1, h5.1, by omega⟩
    · unfold lexS
      split
      · exact Nat.zero_le _
      · have h6 := Lx.lex_len s.data.toList.length 0 s.data.toList
        show (Lx.lex s.data.toList.length 0 s.data.toList).1.length ≤ 200
        omega
  · obtain ⟨h1, p, h2, h3⟩ := lexS_place h
    rw [h1]
    exact ⟨fun t ht => absurd ht List.not_mem_nil, Nat.zero_le _, fun _ => by rw [h2]; omega⟩
mutual
/-- an unmarked row has no frozen cell -/
theorem xok_of_xat {w : World} : ∀ (x : X) (ad : Option Addr), XAt w (fun j => ∃ cs T, w.heap[j]? = some (.cells cs T (0, 0))) x ad → XOk w w.heap.size False x ad
  | .mk _ _ _ l, ad, h => by
    rw [XAt] at h; rw [XOk]
    rcases h with h | ⟨b, o, h1, h2, h3⟩
    · exact .inl h
    · obtain ⟨cs, T, h4⟩ := h2
      exact .inr ⟨b, o, h1, (Array.getElem?_eq_some_iff.1 h4).1, .inr ⟨cs, T, h4⟩, lok_of_lat l b o cs T h4 h3⟩
theorem lok_of_lat {w : World} : ∀ (l : List X) (b o : Nat) (cs : Array Value) (T : TypeId), w.heap[b]? = some (.cells cs T (0, 0)) → LAt w (fun j => ∃ cs T, w.heap[j]? = some (.cells cs T (0, 0))) l b o → LOk w w.heap.size False l b o
  | [], _, _, _, _, _, _ => by rw [LOk]; trivial
  | x :: r, b, o, cs, T, hb, h => by
    rw [LAt] at h; rw [LOk]
    obtain ⟨⟨a, c, h1, h2⟩, h3⟩ := h
    exact ⟨by unfold World.frozen?; rw [hb]; simp, ⟨a, c, h1, xok_of_xat x a h2⟩, lok_of_lat r b (o + 6) cs T hb h3⟩
end
/-- a token does not stand where an expression stands -/
theorem tok_not_x {w : World} {N b k : Nat} {x : X} {a : Option Addr} {c : Nat} {t1 t3 : Int} {t2 : ByteArray} (hr : RowV w N 35 (xC x a c).toList) (h0 : w.cell? ⟨b, k, none⟩ = some (.int .i64 t1)) (h1 : w.cell? ⟨b, k + 1, none⟩ = some (.string t2)) (h2 : w.cell? ⟨b, k + 2, none⟩ = some (.int .i64 t3)) : ¬ b = N := by
  intro e
  subst e
  rw [rowV_cell hr] at h0 h1 h2
  match k with
  | 0 => simp at h1
  | 1 => simp at h1
  | 2 => simp at h2
  | 3 => simp at h0
  | 4 => simp at h0
  | 5 => simp at h0
  | k + 6 => simp at h0
/-- what Parse tells -/
def ParseP (t : X × Int × Int) (w : World) (e : Ending) (w' : World) : Prop :=
  ∃ a c, e = .returned (.tuple #[xV t.1 a c, .int .i64 t.2.1, .int .i64 t.2.2]) ∧ XAt w' (fun j => w.heap.size ≤ j ∧ ∃ cs T, w'.heap[j]? = some (.cells cs T (0, 0))) t.1 a ∧ Below w.heap.size w w'
end Go.Proofs.YtmkllibfblacfaaDoor
