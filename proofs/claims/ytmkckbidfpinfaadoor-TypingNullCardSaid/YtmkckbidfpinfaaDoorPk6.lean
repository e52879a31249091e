/-
  Texts of the layers, part 6: LexJoin, StrJoin, LexProg9, LexSame, LexSam, LexLives, LexLawsW, LexOpen, LexTextsW, LexBackW, LexAgainW, ValBox, ValPart, ValTake, ValRows, OctNum, OctFix, ValByte, ValRow2, ValRow3, ValOpen, LexLaid.
-/
import Derived.Test.YtmkckbidfpinfaaDoorPk5
import Derived.Test.YtmkckbidfpinfaaDoorPk4
import Derived.Shelf.Strings.OnBuilder
import Derived.Test.YtmkckbidfpinfaaDoorPk1
import Derived.Test.YtmkckbidfpinfaaDoorProg
import Derived.WalkKit
import Derived.Test.YtmkckbidfpinfaaDoorPk3
import Derived.BigQuiet
import Derived.Deep.Slices
import Derived.ChangeSlices
import Derived.ChangeArms
import Derived.OpenShut
import Derived.Laws.ResultCell
import Derived.Test.YtmkckbidfpinfaaDoorPk2
import Derived.Deep.Cut
import Derived.WalkSmall
import Derived.Test.YtmkckbidfpinfaaDoorRows
import Derived.Lib.LaidTab
import Derived.LaidMore
import Derived.Stop.Joined
/-
  Layer 13: tokens joined, the document's.
-/
namespace Go.Proofs.YtmkckbidfpinfaaDoor
open Go.RowKit
namespace Lx
theorem join_snoc (t : T) : ∀ l : List T, l ≠ [] → join (l ++ [t]) = join l ++ 32 :: textL t
  | [], h => absurd rfl h
  | [u], _ => rfl
  | u :: v :: l, _ => by
    show textL u ++ 32 :: join (v :: l ++ [t]) = (textL u ++ 32 :: join (v :: l)) ++ 32 :: textL t
    rw [join_snoc t (v :: l) (by simp)]; simp
instance (L : List T) : Decidable (∀ t ∈ L, right t) := inferInstance
def joinS (L : List T) : ByteArray × Int := if ∀ t ∈ L, right t then (mk (join L), 0) else (Vl.mt, 2)
theorem mk_app (a b : List UInt8) : mk a ++ mk b = mk (a ++ b) := by apply Sl.ba_ext; rw [ByteArray.data_append]; simp
theorem joinS_not {L : List T} {k : Nat} (hk : k < L.length) (h : ¬ right L[k]) : joinS L = (Vl.mt, 2) := if_neg fun ha => h (ha _ (List.getElem_mem hk))
def RightTo (L : List T) (k : Nat) : Prop := ∀ t ∈ L.take k, right t
theorem rightTo_next {L : List T} {k : Nat} (h : RightTo L k) (hk : k < L.length) (hr : right L[k]) : RightTo L (k + 1) := by
  intro t ht
  rw [List.take_succ_eq_append_getElem hk] at ht
  rcases List.mem_append.1 ht with ht | ht
  · exact h t ht
  · simp only [List.mem_singleton] at ht; subst ht; exact hr
theorem joinS_end {L : List T} {k : Nat} (h : RightTo L k) (hk : ¬ k < L.length) : joinS L = (mk (join (L.take k)), 0) := by
  unfold RightTo at h
  rw [List.take_of_length_le (by omega)] at h ⊢
  exact if_pos h
theorem join_next0 {L : List T} (hk : 0 < L.length) : mk (join (L.take 0)) ++ mk (textL L[0]) = mk (join (L.take 1)) := by
  rw [List.take_succ_eq_append_getElem hk, mk_app]; rfl
theorem join_next {L : List T} {k : Nat} (h0 : 0 < k) (hk : k < L.length) : mk (join (L.take k)) ++ ⟨#[32]⟩ ++ mk (textL L[k]) = mk (join (L.take (k + 1))) := by
  rw [List.take_succ_eq_append_getElem hk, join_snoc _ _ (by intro h; have := congrArg List.length h; rw [List.length_take, Nat.min_eq_left (by omega)] at this; simp at this; omega)]
  rw [show (⟨#[32]⟩ : ByteArray) = mk [32] from rfl, mk_app, mk_app]; simp
theorem textL_size {t : T} (h : right t) (hn : t.n ≤ 9223372036854775807) : (textL t).length ≤ 85 := by
  obtain ⟨k, s, n, a⟩ := t
  have hl : s.data.toList.length = s.size := Array.length_toList ..
  rcases h with ⟨rfl, _, _, _, h⟩ | ⟨rfl, h, _⟩ | ⟨rfl, _, h⟩ | ⟨rfl, h, _⟩
  · show s.data.toList.length ≤ 85
    have : s.size ≤ 16 := h
    omega
  · have h0 : 0 ≤ n := h
    have h1 : n ≤ 9223372036854775807 := hn
    have := Lib.itoa_length_le n (by omega) h1
    show (Lib.itoa n).length ≤ 85
    omega
  · show (Vl.quoteL s.data.toList).length ≤ 85
    have h40 : s.size ≤ 40 := h.1
    have := Vl.esc_len s.data.toList
    unfold Vl.quoteL
    simp only [List.length_cons, List.length_append, List.length_nil]
    omega
  · have hm : ∀ m ∈ marks, m.length ≤ 85 := by decide
    exact hm _ h
theorem join_size (L : List T) (hn : ∀ t ∈ L, t.n ≤ 9223372036854775807) : ∀ k : Nat, RightTo L k → (mk (join (L.take k))).size ≤ 86 * k
  | 0, _ => by simp [join, ByteArray.size]
  | k + 1, h => by
    have hk : RightTo L k := fun t ht => h t (List.take_subset_take_left L (Nat.le_succ k) ht)
    have ih := join_size L hn k hk
    by_cases hlt : k < L.length
    · have hr : right L[k] := h _ (by rw [List.take_succ_eq_append_getElem hlt]; exact List.mem_append_right _ (List.mem_singleton.2 rfl))
      have ht := textL_size hr (hn _ (List.getElem_mem hlt))
      have hz : ∀ l : List UInt8, (mk l).size = l.length := fun l => List.size_toArray
      rw [hz] at ih ⊢
      by_cases h0 : k = 0
      · subst h0
        have := congrArg ByteArray.size (join_next0 hlt)
        rw [ByteArray.size_append, hz, hz, hz] at this
        have h00 : (join (List.take 0 L)).length = 0 := rfl
        show (join (List.take 1 L)).length ≤ 86
        omega
      · have := congrArg ByteArray.size (join_next (by omega) hlt)
        have h1 : (⟨#[32]⟩ : ByteArray).size = 1 := rfl
        rw [ByteArray.size_append, ByteArray.size_append, h1, hz (join (L.take k)), hz (textL L[k]), hz (join (L.take (k + 1)))] at this
        omega
    · rw [List.take_of_length_le (by omega)] at ih ⊢
      omega
end Lx
theorem readsT13_at {w : World} {a : Option Addr} {L : List Lx.T} (h : ReadsT13 w a L) (k : Nat) (hk : k < L.length) : ∃ b off, a = some ⟨b, off, none⟩ ∧ w.cell? ⟨b, off + k * 4, none⟩ = some (.int .i64 L[k].kind) ∧ w.cell? ⟨b, off + k * 4 + 1, none⟩ = some (.string L[k].s) ∧ w.cell? ⟨b, off + k * 4 + 2, none⟩ = some (.int .i64 L[k].n) ∧ w.cell? ⟨b, off + k * 4 + 3, none⟩ = some (.int .i64 L[k].spot) := h k hk
end Go.Proofs.YtmkckbidfpinfaaDoor

/-
  strings.Join: the library's contract at this program's own numbers.
-/
namespace Go.Proofs
open Go.Shelf
namespace YtmkckbidfpinfaaDoor
open Go.RowKit
end YtmkckbidfpinfaaDoor
end Go.Proofs

/-
  Layer 13, the program's: tokens joined.
-/
namespace Go.Proofs.YtmkckbidfpinfaaDoor
open Go.RowKit
namespace Lx
def texts (L : List T) : List ByteArray := L.map fun t => mk (textL t)
theorem texts_join : ∀ L : List T, Lib.join ((texts L).map (·.data.toList)) [32] = join L
  | [] => rfl
  | [_] => by simp [texts, Lib.join, join]
  | t :: u :: l => by
    have ih := texts_join (u :: l)
    show Lib.join (textL t :: textL u :: ((texts l).map (·.data.toList))) [32] = textL t ++ 32 :: join (u :: l)
    rw [← ih]
    show _ = textL t ++ 32 :: Lib.join (textL u :: ((texts l).map (·.data.toList))) [32]
    simp [Lib.join]
theorem texts_next {L : List T} {k : Nat} (hk : k < L.length) : texts (L.take (k + 1)) = texts (L.take k) ++ [mk (textL L[k])] := by
  unfold texts
  rw [List.take_succ_eq_append_getElem hk, List.map_append]; rfl
theorem texts_len {L : List T} {k : Nat} (hk : k ≤ L.length) : (texts (L.take k)).length = k := by
  unfold texts; rw [List.length_map, List.length_take, Nat.min_eq_left hk]
end Lx
end Go.Proofs.YtmkckbidfpinfaaDoor

/-
  Layer 13: two lists of tokens compared, the document's.
-/
namespace Go.Proofs.YtmkckbidfpinfaaDoor
open Go.RowKit
namespace Lx
/-- what is compared of a token -/
def key (p : Bool) (t : T) : T := if p then t else strip t
def SameK (p : Bool) (L M : List T) (k : Nat) : Prop := (L.map (key p)).take k = (M.map (key p)).take k
theorem sameK_next {p : Bool} {L M : List T} {k : Nat} (h : SameK p L M k) (h1 : k < L.length) (h2 : k < M.length) (hx : key p L[k] = key p M[k]) : SameK p L M (k + 1) := by
  have h1' : k < (L.map (key p)).length := by simpa using h1
  have h2' : k < (M.map (key p)).length := by simpa using h2
  show (L.map (key p)).take (k + 1) = (M.map (key p)).take (k + 1)
  rw [List.take_succ_eq_append_getElem h1', List.take_succ_eq_append_getElem h2', List.getElem_map, List.getElem_map, hx, show (L.map (key p)).take k = (M.map (key p)).take k from h]
theorem sameK_full {p : Bool} {L M : List T} {k : Nat} (h : SameK p L M k) (hl : L.length = M.length) (hk : ¬ k < L.length) : L.map (key p) = M.map (key p) := by
  unfold SameK at h
  rwa [List.take_of_length_le (by rw [List.length_map]; omega), List.take_of_length_le (by rw [List.length_map]; omega)] at h
theorem sameK_not {p : Bool} {L M : List T} {k : Nat} (h1 : k < L.length) (h2 : k < M.length) (hx : ¬ key p L[k] = key p M[k]) : ¬ L.map (key p) = M.map (key p) := fun e => by
  have h1' : k < (L.map (key p)).length := by simpa using h1
  have h2' : k < (M.map (key p)).length := by simpa using h2
  have h3 : (L.map (key p))[k]? = (M.map (key p))[k]? := by rw [e]
  rw [List.getElem?_eq_getElem h1', List.getElem?_eq_getElem h2', List.getElem_map, List.getElem_map] at h3
  exact hx (Option.some.inj h3)
theorem key_kind {p : Bool} {a b : T} (h : key p a = key p b) : a.kind = b.kind := by
  cases p with
  | false =>
    have e : (strip a).kind = (strip b).kind := by rw [show strip a = strip b from h]
    exact e
  | true => exact congrArg T.kind (show a = b from h)
theorem key_s {p : Bool} {a b : T} (h : key p a = key p b) : a.s = b.s := by
  cases p with
  | false =>
    have e : (strip a).s = (strip b).s := by rw [show strip a = strip b from h]
    exact e
  | true => exact congrArg T.s (show a = b from h)
theorem key_n {p : Bool} {a b : T} (h : key p a = key p b) : a.n = b.n := by
  cases p with
  | false =>
    have e : (strip a).n = (strip b).n := by rw [show strip a = strip b from h]
    exact e
  | true => exact congrArg T.n (show a = b from h)
end Lx
end Go.Proofs.YtmkckbidfpinfaaDoor

/-
  Layer 13: two lists of tokens compared, the document's: walked.
-/
namespace Go.Proofs.YtmkckbidfpinfaaDoor
open Go.RowKit
end Go.Proofs.YtmkckbidfpinfaaDoor

/-
  Layer 13's laws: lives (the document's example).
-/
namespace Go.Proofs.YtmkckbidfpinfaaDoor
open Go.RowKit
def exL : List Lx.T := [⟨1, ⟨#[97]⟩, 0, 0⟩, ⟨4, ⟨#[60, 61]⟩, 0, 1⟩, ⟨2, ⟨#[]⟩, 12, 4⟩]
theorem ex_lex : lexS ⟨#[97, 60, 61, 32, 49, 50]⟩ = (exL, 0, 0) := by kernel_rfl
theorem ex_a : Lx.nameB ⟨#[97]⟩ = true := by kernel_rfl
theorem ex_and : Lx.nameB ⟨#[97, 110, 100]⟩ = false := by kernel_rfl
theorem ex_same : (open Classical in decide (exL.map (Lx.key true) = exL.map (Lx.key true))) = true := by simp
theorem ex_reads (w : World) (g : Nat) (h : RowV w g 76 (exL.flatMap tCl)) : ReadsT13 w (some ⟨g, 0, none⟩) exL := by
  intro i hi
  have hi3 : i < 3 := hi
  refine ⟨g, 0, rfl, ?_⟩
  match i, hi3 with
  | 0, _ => exact ⟨rowV_cell h 0, rowV_cell h 1, rowV_cell h 2, rowV_cell h 3⟩
  | 1, _ => exact ⟨rowV_cell h 4, rowV_cell h 5, rowV_cell h 6, rowV_cell h 7⟩
  | 2, _ => exact ⟨rowV_cell h 8, rowV_cell h 9, rowV_cell h 10, rowV_cell h 11⟩
end Go.Proofs.YtmkckbidfpinfaaDoor

/-
  Layer 13: LexReads walked.
-/
namespace Go.Proofs.YtmkckbidfpinfaaDoor
open Go.RowKit
/-- what the walks want of the listed variables -/
def Facts13 (w : World) : Prop := Pow10 w ∧ ErrR w
namespace Lx
theorem lex_count : ∀ (k a : Nat) (l : List UInt8), (lex k a l).1.length ≤ k
  | 0, _, _ => Nat.le_refl _
  | _ + 1, _, [] => Nat.zero_le _
  | k + 1, a, c :: r => by
    by_cases h : c = 32
    · subst h; rw [lex_blank]; exact Nat.le_succ_of_le (lex_count k _ _)
    · by_cases he : (one (c :: r)).2.2 = 0
      · rw [lex_more h he]
        split
        · exact Nat.zero_le _
        · exact Nat.succ_le_succ (lex_count k _ _)
      · rw [lex_err h he]; exact Nat.zero_le _
end Lx
theorem lexS_count (s : ByteArray) : (lexS s).1.length ≤ 200 := by
  have hl : s.data.toList.length = s.size := Array.length_toList ..
  unfold lexS
  split
  · exact Nat.zero_le _
  · have := Lx.lex_count s.data.toList.length 0 s.data.toList
    show (Lx.lex _ _ _).1.length ≤ 200
    omega
end Go.Proofs.YtmkckbidfpinfaaDoor

/-
  Layer 13's laws: arguments that are tokens, and lists of them, opened.
-/
namespace Go.Proofs.YtmkckbidfpinfaaDoor
open Go.ChangeShapes Go.WideShapes Go.RowKit
/-- what a token that an argument is has of bounds -/
def FitsT (t : Lx.T) : Prop := (-9223372036854775808 ≤ t.n ∧ t.n ≤ 9223372036854775807) ∧ (-9223372036854775808 ≤ t.spot ∧ t.spot ≤ 9223372036854775807) ∧ t.s.size ≤ maxLen
/-- a list of tokens that an argument may be -/
def ReadsTF (w : World) (a : Option Addr) (L : List Lx.T) : Prop := ReadsT13 w a L ∧ ∀ x ∈ L, FitsT x
section
variable {H : Type} {enc : TypeId × Value → H} {w : World} {base : Nat} {spare : Nat → Bool} {held : Bool}
theorem add_mid13 (b off k : Nat) : (⟨b, off, none⟩ : Addr).add k = ⟨b, off + k, none⟩ := by unfold Addr.add; split <;> simp_all
theorem one_cell13 {l : List Value} {k : Nat} (h : k < l.length) : (l.drop k).take 1 = [l[k]] := by
  rw [List.drop_eq_getElem_cons h]; rfl
set_option maxRecDepth 100000 in
theorem tok_frame {fuel : Nat} {cs : List Value} {x : DataW H × List MemPlace} (h : DataW.trod enc Tryd.prog w base spare held fuel 76 cs = some x) : ∃ l : Lx.T, cs = (tokC l).toList ∧ FitsT l := by
  have hC : Tryd.prog.cellsOf 76 = 4 := by kernel_rfl
  obtain ⟨ys, n', _, _, hcl, hyl, hf⟩ := DataW.trod_struct Tryd.underlying76 h
  rw [hC] at hcl
  have hyl4 : ys.length = 4 := hyl
  have g0 : DataW.trod enc Tryd.prog w base spare held n' 74 ((cs.drop 0).take (Tryd.prog.cellsOf 74)) = ys[0]? := hf 0 _ rfl
  have g1 : DataW.trod enc Tryd.prog w base spare held n' 9 ((cs.drop 1).take (Tryd.prog.cellsOf 9)) = ys[1]? := hf 1 _ rfl
  have g2 : DataW.trod enc Tryd.prog w base spare held n' 3 ((cs.drop 2).take (Tryd.prog.cellsOf 3)) = ys[2]? := hf 2 _ rfl
  have g3 : DataW.trod enc Tryd.prog w base spare held n' 3 ((cs.drop 3).take (Tryd.prog.cellsOf 3)) = ys[3]? := hf 3 _ rfl
  rw [List.getElem?_eq_getElem (by omega)] at g0 g1 g2 g3
  have kk : Tryd.prog.cellsOf 74 = 1 := by kernel_rfl
  have k0 : Tryd.prog.cellsOf 3 = 1 := by kernel_rfl
  have ks : Tryd.prog.cellsOf 9 = 1 := by kernel_rfl
  rw [kk, one_cell13 (by omega)] at g0
  rw [ks, one_cell13 (by omega)] at g1
  rw [k0, one_cell13 (by omega)] at g2 g3
  obtain ⟨z0, e0, _, _⟩ := DataW.trod_int Tryd.underlying74 g0
  obtain ⟨z1, e1, _, w1⟩ := DataW.trod_string Tryd.underlying9 g1
  obtain ⟨z2, e2, _, w2⟩ := DataW.trod_int Tryd.underlying3 g2
  obtain ⟨z3, e3, _, w3⟩ := DataW.trod_int Tryd.underlying3 g3
  simp only [List.cons.injEq, and_true] at e0 e1 e2 e3
  refine ⟨⟨z0, z1, z2, z3⟩, ?_, ?_⟩
  · obtain ⟨a, b, c, d, rfl⟩ : ∃ a b c d, cs = [a, b, c, d] := by
      rcases cs with _ | ⟨a, _ | ⟨b, _ | ⟨c, _ | ⟨d, _ | ⟨e, r⟩⟩⟩⟩⟩
      · exact absurd hcl (by simp)
      · exact absurd hcl (by simp)
      · exact absurd hcl (by simp)
      · exact absurd hcl (by simp)
      · exact ⟨a, b, c, d, rfl⟩
      · exact absurd hcl (by simp)
    simp only [List.getElem_cons_zero, List.getElem_cons_succ] at e0 e1 e2 e3
    rw [e0, e1, e2, e3]
  · exact ⟨bounds_i64 w2, bounds_i64 w3, w1⟩
end
end Go.Proofs.YtmkckbidfpinfaaDoor

/-
  Layer 13: LexTexts walked.
-/
namespace Go.Proofs.YtmkckbidfpinfaaDoor
open Go.RowKit
/-- the loop's token: the last one that was gone by -/
structure LastAt (w : World) (x : Lx.T) (wr : World) : Prop where
  row : RowV wr w.heap.size 76 (tokC x).toList
  fit : x.s.size ≤ 300 ∧ -9223372036854775808 ≤ x.n ∧ x.n ≤ 9223372036854775807
  bel : Below w.heap.size w wr
end Go.Proofs.YtmkckbidfpinfaaDoor

/-
  Layer 13: LexBack walked.
-/
namespace Go.Proofs.YtmkckbidfpinfaaDoor
open Go.RowKit
theorem joinS_right {L : List Lx.T} (h : ∀ t ∈ L, Lx.right t) : Lx.joinS L = (Lx.mk (Lx.join L), 0) := if_pos h
theorem joinS_wrong {L : List Lx.T} (h : ¬ ∀ t ∈ L, Lx.right t) : Lx.joinS L = (Vl.mt, 2) := if_neg h
theorem lexS_big {s : ByteArray} (h : 200 < s.size) : lexS s = ([], 0, 5) := if_pos h
theorem lexS_join {L : List Lx.T} (h : ¬ 200 < (Lx.mk (Lx.join L)).size) (hr : ∀ t ∈ L, Lx.right t) (hn : ∀ t ∈ L, t.n ≤ 9223372036854775807) : ∃ m, lexS (Lx.mk (Lx.join L)) = (m, 0, 0) ∧ Lx.Same m L := by
  obtain ⟨m, h1, h2⟩ := Lx.join_back L 0 fun t ht => ⟨hr t ht, hn t ht⟩
  exact ⟨m, (if_neg h).trans h1, h2⟩
end Go.Proofs.YtmkckbidfpinfaaDoor

/-
  Layer 13: LexAgain walked.
-/
namespace Go.Proofs.YtmkckbidfpinfaaDoor
open Go.RowKit
namespace Lx
theorem lex_place : ∀ (k a : Nat) (l : List UInt8), (lex k a l).2.2 ≠ 0 → (lex k a l).1 = [] ∧ ∃ p : Nat, (lex k a l).2.1 = (p : Int) ∧ p ≤ a + l.length
  | 0, _, _, h => absurd rfl h
  | _ + 1, _, [], h => absurd rfl h
  | k + 1, a, c :: r, h => by
    by_cases hc : c = 32
    · subst hc
      rw [lex_blank] at h ⊢
      obtain ⟨h1, p, h2, h3⟩ := lex_place k _ _ h
      exact ⟨h1, p, h2, by rw [List.length_cons]; omega⟩
    · by_cases he : (one (c :: r)).2.2 = 0
      · have hle := (one_ok he).2.2.2.1
        rw [lex_more hc he] at h ⊢
        split
        · rename_i h2
          obtain ⟨h1, p, h4, h3⟩ := lex_place k _ _ h2
          refine ⟨rfl, p, h4, ?_⟩
          rw [List.length_drop] at h3
          omega
        · rename_i h2
          rw [if_neg h2] at h
          exact absurd rfl h
      · rw [lex_err hc he]; exact ⟨rfl, a, rfl, Nat.le_add_right _ _⟩
theorem laid_at {s : List UInt8} {e : Nat} {L : List T} {k : Nat} (hk : k < L.length) (h : Laid s e (L.drop k)) : ∃ a : Nat, L[k].spot = (a : Int) ∧ e ≤ a ∧ a + (textL L[k]).length ≤ s.length ∧ (∀ j, e ≤ j → j < a → s[j]? = some 32) ∧ (s.drop a).take (textL L[k]).length = textL L[k] ∧ right L[k] ∧ L[k].n ≤ maxI ∧ Laid s (a + (textL L[k]).length) (L.drop (k + 1)) := by
  rw [List.drop_eq_getElem_cons hk] at h
  exact h
end Lx
theorem lexS_place {s : ByteArray} (h : (lexS s).2.2 ≠ 0) : (lexS s).1 = [] ∧ ∃ p : Nat, (lexS s).2.1 = (p : Int) ∧ p ≤ s.size := by
  have hl : s.data.toList.length = s.size := Array.length_toList ..
  revert h
  unfold lexS
  split
  · exact fun _ => ⟨rfl, 0, rfl, Nat.zero_le _⟩
  · intro h
    obtain ⟨h1, p, h2, h3⟩ := Lx.lex_place _ _ _ h
    exact ⟨h1, p, h2, by omega⟩
theorem lexS_laid {s : ByteArray} (h : (lexS s).2.2 = 0) : (lexS s).2.1 = 0 ∧ Lx.Laid s.data.toList 0 (lexS s).1 := by
  revert h
  unfold lexS
  split
  · intro h; exact absurd h (by decide)
  · intro h
    have h0 := Lx.lexAt_zero _ _ h
    refine ⟨h0, Lx.lex_laid s.data.toList s.data.toList.length 0 _ (Nat.le_of_eq (Nat.sub_zero _)) (Nat.zero_le _) ?_ 0 (Nat.le_refl _) (fun j _ h2 => by omega)⟩
    rw [List.drop_zero]
    exact Prod.ext rfl (Prod.ext h0 h)
theorem blank_at {s : ByteArray} {j : Nat} (hj : j < s.size) (h : s.data.toList[j]? = some 32) : s[j] = 32 := by
  have hl : j < s.data.toList.length := by simpa using hj
  rw [List.getElem?_eq_getElem hl] at h
  exact Option.some.inj h
/-- what the loop over the tokens knows -/
structure AgainAt (s : ByteArray) (L : List Lx.T) (k e : Nat) (w wr : World) : Prop where
  laid : Lx.Laid s.data.toList e (L.drop k)
  bel : Below w.heap.size w wr
theorem text_right {t : Lx.T} (h : Lx.right t) : Lx.textT t = (Lx.mk (Lx.textL t), 0) := if_pos h
theorem right_small {t : Lx.T} (h : Lx.right t) : t.s.size ≤ 40 ∧ -9223372036854775808 ≤ t.n := by
  obtain ⟨k, s, n, a⟩ := t
  have hl : s.data.toList.length = s.size := Array.length_toList ..
  rcases h with ⟨_, h, _, _, h2⟩ | ⟨_, h, h2⟩ | ⟨_, h, h2⟩ | ⟨_, h, h2⟩
  · have h : n = 0 := h
    have h2 : s.size ≤ 16 := h2
    exact ⟨by show s.size ≤ 40; omega, by show _ ≤ n; omega⟩
  · have h : 0 ≤ n := h
    have h2 : s = Vl.mt := h2
    exact ⟨by show s.size ≤ 40; rw [h2]; decide, by show _ ≤ n; omega⟩
  · have h : n = 0 := h
    exact ⟨h2.1, by show _ ≤ n; omega⟩
  · have h2 : n = 0 := h2
    have hm : ∀ m ∈ Lx.marks, m.length ≤ 40 := by decide
    have h3 : s.data.toList.length ≤ 40 := hm _ h
    exact ⟨by show s.size ≤ 40; omega, by show _ ≤ n; omega⟩
theorem cut_text {s : ByteArray} {a : Nat} {l : List UInt8} (h : (s.data.toList.drop a).take l.length = l) : s.extract a (a + (Lx.mk l).size) = Lx.mk l := by
  have hz : (Lx.mk l).size = l.length := List.size_toArray
  apply Sl.ba_ext
  rw [Sl.ext_list, hz, Nat.add_sub_cancel_left, h]
end Go.Proofs.YtmkckbidfpinfaaDoor

/-
  Layer 12: a value in a cell of its own, and as a result.
-/
namespace Go.Proofs.YtmkckbidfpinfaaDoor
open Go.RowKit
theorem info_val : (Tryd.prog.info? 33).map (·.size) = some 3 := by kernel_rfl
theorem results_cell_two {fn : Func} {p u x : Tmp} {ty : TypeId} (h : fn.results = #[.cell p ty, .tmp u, .tmp x]) (tmps : Array Value) (P : Program) (w : World) :
    (results fn tmps).run P w =
      ((asAddr (tmps.getD p undef)).run P w).andThen fun a w₁ => ((loadVar ty a).run P w₁).andThen fun v w₂ => .ok (.tuple #[v, tmps.getD u undef, tmps.getD x undef]) w₂ := by
  simp only [results, h]
  simp [Sem.run_bind, Result.andThen]
set_option maxRecDepth 100000 in
theorem results_val {fn : Func} {p u x : Tmp} (h : fn.results = #[.cell p 33, .tmp u, .tmp x]) (tmps : Array Value) (w : World) (g : Nat) (v : Vl.V)
    (hp : tmps.getD p undef = .pointer (some ⟨g, 0, none⟩)) (hg : RowV w g 33 (valC v).toList) :
    (results fn tmps).run Tryd.prog w = .ok (.tuple #[valV v, tmps.getD u undef, tmps.getD x undef]) w := by
  have hl := run_loadVar_row (P := Tryd.prog) w g 33 33 (valC v) (0, 0) _ hg Tryd.underlying33 rfl info_val
  rw [results_cell_two h, hp]
  simp only [asAddr, Sem.run_pure, Result.andThen]
  rw [hl]
/-- a value stored into its box -/
theorem val_put {w : World} {N : Nat} {v : Vl.V} (hr : RowV w N 33 (valC v).toList) (k n : Int) (s : ByteArray) :
    RowV (((w.setCell ⟨N, 0, none⟩ (.int .i64 k)).setCell ⟨N, 1, none⟩ (.int .i64 n)).setCell ⟨N, 2, none⟩ (.string s)) N 33 (valC ⟨k, n, s⟩).toList ∧
    ∀ B, B ≤ N → Below B w (((w.setCell ⟨N, 0, none⟩ (.int .i64 k)).setCell ⟨N, 1, none⟩ (.int .i64 n)).setCell ⟨N, 2, none⟩ (.string s)) :=
  ⟨rowV_stored (rowV_stored (rowV_stored hr 0 (.int .i64 k)) 1 (.int .i64 n)) 2 (.string s),
    fun B hB => (((Below.refl B w).setCell (p := ⟨N, 0, none⟩) hB _).setCell (p := ⟨N, 1, none⟩) hB _).setCell (p := ⟨N, 2, none⟩) hB _⟩
/-- a value's cells, at its box -/
theorem val_cells {w : World} {g : Nat} {v : Vl.V} (h : RowV w g 33 (valC v).toList) :
    w.cell? ⟨g, 0, none⟩ = some (.int .i64 v.kind) ∧ w.cell? ⟨g, 1, none⟩ = some (.int .i64 v.n) ∧ w.cell? ⟨g, 2, none⟩ = some (.string v.s) ∧
    w.frozen? ⟨g, 0, none⟩ = false ∧ w.frozen? ⟨g, 1, none⟩ = false ∧ w.frozen? ⟨g, 2, none⟩ = false :=
  ⟨rowV_cell h 0, rowV_cell h 1, rowV_cell h 2, rowV_frozen h 0, rowV_frozen h 1, rowV_frozen h 2⟩
/-- a new box -/
theorem val_new (v : Vl.V) (w : World) : RowV (w.alloc (.cells (valC v) 33)) w.heap.size 33 (valC v).toList ∧ Below w.heap.size w (w.alloc (.cells (valC v) 33)) ∧ (w.alloc (.cells (valC v) 33)).heap.size = w.heap.size + 1 :=
  ⟨rowV_new w _ [_, _, _], (Below.refl w.heap.size w).alloc (Nat.le_refl _) _, World.size_alloc _ _⟩
end Go.Proofs.YtmkckbidfpinfaaDoor

/-
  Layer 12: a value's parts off the front.
-/
namespace Go.Proofs.YtmkckbidfpinfaaDoor
open Go.RowKit
namespace Vl
open Oct (numB tN tR tE txt)
def parts (s : ByteArray) : V × ByteArray × Int :=
  if tE s ≠ 0 then (no, mt, tE s) else if tN s = 1 ∨ tN s = 3 then (⟨tN s, tN (tR s), mt⟩, tR (tR s), tE (tR s)) else if tN s = 2 then (⟨tN s, 0, (txt (tR s) 40).1⟩, (txt (tR s) 40).2.1, (txt (tR s) 40).2.2) else (⟨tN s, 0, mt⟩, tR s, 0)
theorem take_parts (s : ByteArray) : take s = if (parts s).2.2 ≠ 0 then (no, mt, (parts s).2.2) else if right (parts s).1 then parts s else (no, mt, 4) := by
  unfold take parts
  by_cases h1 : tE s = 0
  · simp only [h1, ne_eq, not_true_eq_false, if_false]
    by_cases h2 : tN s = 1 ∨ tN s = 3
    · simp only [h2, if_true]
      by_cases h3 : tE (tR s) = 0
      · simp only [h3, not_true_eq_false, if_false]
      · simp only [h3, not_false_eq_true, if_true]
    · simp only [h2, if_false]
      by_cases h3 : tN s = 2
      · simp only [h3, if_true]
        by_cases h4 : (txt (tR s) 40).2.2 = 0
        · simp only [h4, not_true_eq_false, if_false]
        · simp only [h4, not_false_eq_true, if_true]
      · simp only [h3, if_false, not_true_eq_false]
        by_cases h4 : tN s = 0
        · rw [if_pos h4, if_pos (by rw [h4]; exact right_no), h4]; rfl
        · rw [if_neg h4, if_neg]
          rintro (h | h | h | h)
          · exact h4 h.1
          · exact h2 (.inl h.1)
          · exact h3 h.1
          · exact h2 (.inr h.1)
  · simp only [h1, ne_eq, not_false_eq_true, if_true]
theorem parts_err {s : ByteArray} (h : tE s ≠ 0) : parts s = (no, mt, tE s) := if_pos h
theorem parts_num {s : ByteArray} (h : tE s = 0) (h2 : tN s = 1 ∨ tN s = 3) : parts s = (⟨tN s, tN (tR s), mt⟩, tR (tR s), tE (tR s)) := by unfold parts; rw [if_neg (fun x => x h), if_pos h2]
theorem parts_txt {s : ByteArray} (h : tE s = 0) (h2 : tN s = 2) : parts s = (⟨2, 0, (txt (tR s) 40).1⟩, (txt (tR s) 40).2.1, (txt (tR s) 40).2.2) := by unfold parts; rw [if_neg (fun x => x h), if_neg (by omega), if_pos h2, h2]
theorem parts_one {s : ByteArray} (h : tE s = 0) (h2 : ¬ (tN s = 1 ∨ tN s = 3)) (h3 : ¬ tN s = 2) : parts s = (⟨tN s, 0, mt⟩, tR s, 0) := by unfold parts; rw [if_neg (fun x => x h), if_neg h2, if_neg h3]
end Vl
/-- two boxes, draws between and behind -/
theorem val_two (w : World) (a b : Vl.V) (k l : Nat) {w2 : World} (h : w2 = (((w.alloc (.cells (valC a) 33)).drewN k).alloc (.cells (valC b) 33)).drewN l) :
    RowV w2 (w.heap.size + 1) 33 (valC b).toList ∧ RowV w2 w.heap.size 33 (valC a).toList ∧ Below w.heap.size w w2 ∧ w.heap.size + 1 < w2.heap.size := by
  subst h
  obtain ⟨r0, b0, s0⟩ := val_new a w
  have e : ((w.alloc (.cells (valC a) 33)).drewN k).heap.size = w.heap.size + 1 := by simp
  have h := rowV_new ((w.alloc (.cells (valC a) 33)).drewN k) 33 (valC b).toList
  rw [e] at h
  have h0 : RowV ((w.alloc (.cells (valC a) 33)).drewN k) w.heap.size 33 (valC a).toList := r0
  refine ⟨h, rowV_alloc h0 _, below_drewN ((below_drewN b0 k).alloc (by omega) _) l, ?_⟩
  exact rowV_lt h
theorem tR12_size (s : ByteArray) : (Oct.tR s).size ≤ s.size := by
  rcases Oct.t_cases s with ⟨_, h, _⟩ | ⟨n, r, _, _, h3, _, e2, _, _⟩
  · rw [h]; exact Nat.zero_le _
  · rw [e2]; exact h3
end Go.Proofs.YtmkckbidfpinfaaDoor

/-
  Layer 12: a value off the front, the program's and the document's.
-/
namespace Go.Proofs.YtmkckbidfpinfaaDoor
open Go.RowKit
theorem parts_size (s : ByteArray) (hs : s.size ≤ maxLen) : (Vl.parts s).1.s.size ≤ maxLen := by
  unfold Vl.parts
  split
  · exact Nat.zero_le _
  · split
    · exact Nat.zero_le _
    · split
      · have z1 := tR12_size s
        show (Oct.txt (Oct.tR s) 40).1.size ≤ maxLen
        rcases Oct.txt_cases (Oct.tR s) 40 with ⟨e, _, h⟩ | ⟨a, r, h, _, h2⟩
        · rw [h]; exact Nat.zero_le _
        · rw [h]; show a.size ≤ maxLen; omega
      · exact Nat.zero_le _
/-! the document's -/
end Go.Proofs.YtmkckbidfpinfaaDoor

/-
  Layer 12: rows of values in memory; a row off the front, the program's and the document's.
-/
namespace Go.Proofs.YtmkckbidfpinfaaDoor
open Go.RowKit
abbrev vCl (v : Vl.V) : List Value := [.int .i64 v.kind, .int .i64 v.n, .string v.s]
theorem val_parts : (Tryd.prog.info? 33).map (fun i => (i.zero, i.size, i.bytes)) = some (some (.agg #[.int .i64 0, .int .i64 0, .string ⟨#[]⟩]), 3, 32) := by kernel_rfl
theorem val_elem : ElemOk Tryd.prog 33 3 32 := elemOk_of val_parts rfl (by decide) (by decide)
theorem vCl_one (v : Vl.V) : ∀ u ∈ vCl v, u.oneCell' = true := by intro u hu; simp [vCl] at hu; rcases hu with rfl | rfl | rfl <;> rfl
/-- a slice of values, read -/
def ReadsV (w : World) (a : Option Addr) (L : List Vl.V) : Prop := ∀ i (h : i < L.length), ∃ b off, a = some ⟨b, off, none⟩ ∧ w.cell? ⟨b, off + i * 3, none⟩ = some (.int .i64 L[i].kind) ∧ w.cell? ⟨b, off + i * 3 + 1, none⟩ = some (.int .i64 L[i].n) ∧ w.cell? ⟨b, off + i * 3 + 2, none⟩ = some (.string L[i].s)
theorem readsV_none (w : World) (a : Option Addr) : ReadsV w a [] := by intro i hi; simp at hi
theorem readsV_only {F : Nat → Prop} {w w' : World} {a : Option Addr} {L : List Vl.V} (h : ReadsV w a L) (ho : Only F w w') (hn : ∀ b, a = some b → ¬ F b.block) : ReadsV w' a L := by
  intro i hi
  obtain ⟨b, off, h1, h2, h3, h4⟩ := h i hi
  have hF : ¬ F b := hn _ h1
  exact ⟨b, off, h1, (ho.cell (World.block_lt_of_cell? w _ h2) hF).trans h2, (ho.cell (World.block_lt_of_cell? w _ h3) hF).trans h3, (ho.cell (World.block_lt_of_cell? w _ h4) hF).trans h4⟩
theorem readsV_below {w w' : World} {a : Option Addr} {L : List Vl.V} (h : ReadsV w a L) (hb : Below w.heap.size w w') : ReadsV w' a L := readsV_only h (Only.of_none (F := fun _ => False) hb) fun _ _ h => h
theorem owL_readsV {w : World} {B : Nat} {ao : Option Addr} {cp k : Nat} {L : List Vl.V} (hk : L.length = k) (h : OwL vCl 33 3 w B (.slice ao k cp) L) : ReadsV w ao L := by
  intro i hi
  obtain ⟨g, c, e, hc⟩ := owL_cell (f := vCl) (k := 3) (fun _ _ => rfl) h i hi
  cases e
  refine ⟨g, 0, rfl, ?_, ?_, ?_⟩
  · have := (hc 0 _ rfl).1; rw [Nat.zero_add]; exact this
  · have := (hc 1 _ rfl).1; rw [Nat.zero_add]; exact this
  · have := (hc 2 _ rfl).1; rw [Nat.zero_add]; exact this
/-- what is answered as a row off the front -/
def RowPost (t : List Vl.V × ByteArray × Int) (w : World) (e : Ending) (w' : World) : Prop := ∃ a cap, e = .returned (.tuple #[.slice a t.1.length cap, .string t.2.1, .int .i64 t.2.2]) ∧ ReadsV w' a t.1 ∧ t.1.length ≤ cap ∧ Below w.heap.size w w'
theorem rowPost_err {t : List Vl.V × ByteArray × Int} {w w' : World} {e : Int} (h : t = ([], Vl.mt, e)) (hb : Below w.heap.size w w') : RowPost t w (.returned (.tuple #[.slice none 0 0, .string Vl.mt, .int .i64 e])) w' := by
  subst h; exact ⟨none, 0, rfl, readsV_none _ _, Nat.le_refl _, hb⟩
theorem rowPost_ok {t : List Vl.V × ByteArray × Int} {L : List Vl.V} {R : ByteArray} {w w' : World} {B k cp : Nat} {ao : Option Addr} (h : t = (L, R, 0)) (hk : L.length = k) (hown : OwL vCl 33 3 w' B (.slice ao k cp) L) (hb : Below w.heap.size w w') : RowPost t w (.returned (.tuple #[.slice ao k cp, .string R, .int .i64 0])) w' := by
  subst h
  refine ⟨ao, cp, by rw [hk], owL_readsV hk hown, ?_, hb⟩
  obtain ⟨a, c, e, h1, _⟩ := owL_form hown
  cases e
  exact h1
theorem ret3v {a a' : Option Addr} {k k' c c' : Nat} {R R' : ByteArray} {e e' : Int} (h : a = a' ∧ k = k' ∧ c = c' ∧ R = R' ∧ e = e') : Ending.returned (.tuple #[.slice a k c, .string R, .int .i64 e]) = .returned (.tuple #[.slice a' k' c', .string R', .int .i64 e']) := by
  obtain ⟨rfl, rfl, rfl, rfl, rfl⟩ := h; rfl
/-- behind an append of a new box -/
theorem box_val {w wr : World} {B : Nat} {u : Value} {l : List Vl.V} (v : Vl.V) (h : OwL vCl 33 3 wr B u l) (hb : Below B w wr) (hB : B ≤ w.heap.size) :
    OwL vCl 33 3 (wr.alloc (.cells (valC v) 33)) B u l ∧ Below B w (wr.alloc (.cells (valC v) 33)) ∧ B ≤ (wr.alloc (.cells (valC v) 33)).heap.size ∧ RowV (wr.alloc (.cells (valC v) 33)) wr.heap.size 33 (vCl v) := by
  have hs := hb.size
  have hz : (wr.alloc (.cells (valC v) 33)).heap.size = wr.heap.size + 1 := World.size_alloc _ _
  exact ⟨owL_below h ((Below.refl _ _).alloc (Nat.le_refl _) _), hb.alloc (by omega) _, by omega, rowV_new _ _ _⟩
theorem app_val {w wr w5 : World} {B g n cap : Nat} {u : Value} {l l' : List Vl.V} (h5 : OwL vCl 33 3 w5 B (.slice (some ⟨g, 0, none⟩) n cap) l') (ho : Only (fun j => u.ownBlock = some j) wr w5) (h : OwL vCl 33 3 wr B u l) (hb : Below B w wr) (hB : B ≤ wr.heap.size) :
    OwL vCl 33 3 w5 B (.slice (some ⟨g, 0, none⟩) n cap) l' ∧ Below B w w5 :=
  ⟨h5, hb.trans (ho.below (fun j _ e => (owL_lt h j e).1) hB)⟩
/-- a value stored into a box that is not the row's -/
theorem put_val {w wr : World} {B G : Nat} {u : Value} {l : List Vl.V} {v0 : Vl.V} (k n : Int) (s : ByteArray) (h : OwL vCl 33 3 wr B u l) (hb : Below B w wr) (hr : RowV wr G 33 (valC v0).toList) (hG : B ≤ G) (hn : u.ownBlock ≠ some G) :
    OwL vCl 33 3 (((wr.setCell ⟨G, 0, none⟩ (.int .i64 k)).setCell ⟨G, 1, none⟩ (.int .i64 n)).setCell ⟨G, 2, none⟩ (.string s)) B u l ∧
    RowV (((wr.setCell ⟨G, 0, none⟩ (.int .i64 k)).setCell ⟨G, 1, none⟩ (.int .i64 n)).setCell ⟨G, 2, none⟩ (.string s)) G 33 (valC ⟨k, n, s⟩).toList ∧
    Below B w (((wr.setCell ⟨G, 0, none⟩ (.int .i64 k)).setCell ⟨G, 1, none⟩ (.int .i64 n)).setCell ⟨G, 2, none⟩ (.string s)) := by
  obtain ⟨p1, p2⟩ := val_put hr k n s
  refine ⟨owL_only (F := fun j => j = G) h (Only.setCell (F := fun j => j = G) (g := G) (i := 2) (Only.setCell (F := fun j => j = G) (g := G) (i := 1) (Only.setCell (F := fun j => j = G) (g := G) (i := 0) (Only.refl _ wr) (fun _ => rfl) _) (fun _ => rfl) _) (fun _ => rfl) _) (fun j e hj => ?_), p1, hb.trans (p2 B hG)⟩
  subst hj; exact hn e
theorem take12_size (r : ByteArray) : (Vl.take r).2.1.size ≤ r.size := by
  rcases Vl.take_ok r with ⟨_, _, h⟩ | ⟨_, _, h⟩
  · have := congrArg ByteArray.size h
    rw [ByteArray.size_append] at this; omega
  · rw [h]; exact Nat.zero_le _
/-- a string of a value -/
def strOf : Value → ByteArray | .string s => s | _ => Vl.mt
theorem tN12_range (s : ByteArray) : -9223372036854775808 ≤ Oct.tN s ∧ Oct.tN s ≤ 9223372036854775807 := by
  rcases Oct.t_cases s with ⟨h, _, _⟩ | ⟨n, r, h1, h2, _, h3, _⟩
  · rw [h]; omega
  · rw [h3]; omega
end Go.Proofs.YtmkckbidfpinfaaDoor

/-
  Layer 1: what Num answers (the program's and the document's).
-/
namespace Go.Proofs.YtmkckbidfpinfaaDoor
open Go.RowKit


theorem or128 (d : Nat) (h : d < 128) : bits .or .u8 (d : Int) 128 = ((128 + d : Nat) : Int) := by
  rw [u8_or _ _ (by omega) (by omega) (by decide) (by decide)]
  simp only [Int.toNat_natCast, Int.reduceToNat]
  have := Nat.two_pow_add_eq_or_of_lt (i := 7) (b := d) (by omega) 1
  rw [Nat.or_comm]
  have h2 : (2 ^ 7 * 1 : Nat) = 128 := rfl
  rw [h2] at this; rw [this]

end Go.Proofs.YtmkckbidfpinfaaDoor

/-
  Layer 1: what Fixed and Text answer (the program's and the document's).
-/
namespace Go.Proofs.YtmkckbidfpinfaaDoor
open Go.RowKit

end Go.Proofs.YtmkckbidfpinfaaDoor

/-
  Layer 12: a value's bytes, the program's and the document's.
-/
namespace Go.Proofs.YtmkckbidfpinfaaDoor
open Go.RowKit
/-- what Bytes tells -/
def bytesB (v : Vl.V) : ByteArray := if Vl.right v then Vl.bytes v else Vl.mt
theorem bytesB_ok {v : Vl.V} (h : Vl.right v) : bytesB v = Vl.bytes v := if_pos h
theorem bytesB_bad {v : Vl.V} (h : ¬ Vl.right v) : bytesB v = Vl.mt := if_neg h
end Go.Proofs.YtmkckbidfpinfaaDoor

/-
  Layer 12: a row's bytes, the program's and the document's; whether rows are right, and the same.
-/
namespace Go.Proofs.YtmkckbidfpinfaaDoor
open Go.RowKit
/-- a value that an argument may be -/
def Fits (v : Vl.V) : Prop := -9223372036854775808 ≤ v.n ∧ v.n ≤ 9223372036854775807 ∧ v.s.size ≤ maxLen
abbrev AllRight (L : List Vl.V) : Prop := ∀ v ∈ L, Vl.right v
theorem allRight_take {L : List Vl.V} {k : Nat} (h : AllRight (L.take k)) (hk : k < L.length) (hr : Vl.right L[k]) : AllRight (L.take (k + 1)) := by
  intro v hv
  rw [List.take_add_one, List.getElem?_eq_getElem hk] at hv
  rcases List.mem_append.1 hv with hv | hv
  · exact h v hv
  · simp only [Option.toList_some, List.mem_singleton] at hv; subst hv; exact hr
theorem allRight_full {L : List Vl.V} {k : Nat} (h : AllRight (L.take k)) (hk : ¬ k < L.length) : AllRight L := by
  rw [List.take_of_length_le (by omega)] at h; exact h
theorem allRight_not {L : List Vl.V} {k : Nat} (hk : k < L.length) (hr : ¬ Vl.right L[k]) : ¬ AllRight L := fun h => hr (h _ (List.getElem_mem hk))
theorem allRight_zero (L : List Vl.V) : AllRight (L.take 0) := by intro v hv; simp at hv
/-- the cells of element k -/
theorem readsV_at {w : World} {a : Option Addr} {L : List Vl.V} (h : ReadsV w a L) (k : Nat) (hk : k < L.length) : ∃ b off, a = some ⟨b, off, none⟩ ∧ w.cell? ⟨b, off + k * 3, none⟩ = some (.int .i64 L[k].kind) ∧ w.cell? ⟨b, off + k * 3 + 1, none⟩ = some (.int .i64 L[k].n) ∧ w.cell? ⟨b, off + k * 3 + 2, none⟩ = some (.string L[k].s) := h k hk
theorem Vl.bytes_size {v : Vl.V} (h : Vl.right v) (h0 : -9223372036854775808 ≤ v.n) (h1 : v.n ≤ 9223372036854775807) : (Vl.bytes v).size ≤ 70 := by
  obtain ⟨k0, k3⟩ := Vl.right_kind h
  have l1 := Oct.numB_len v.kind (by omega) (by omega)
  have l2 := Oct.numB_len v.n h0 h1
  have l4 := Vl.right_size h
  have l3 := Oct.numB_len (v.s.size : Int) (by omega) (by omega)
  unfold Vl.bytes Vl.tail
  rw [ByteArray.size_append]
  split
  · omega
  · split
    · rw [ByteArray.size_append]; omega
    · show _ + 0 ≤ 70; omega
theorem Vl.allB_app (A B : List Vl.V) : Vl.allB (A ++ B) = Vl.allB A ++ Vl.allB B := by
  induction A with
  | nil => show Vl.allB B = Vl.mt ++ Vl.allB B; rw [Vl.mt_append]
  | cons x A ih => show Vl.bytes x ++ Vl.allB (A ++ B) = (Vl.bytes x ++ Vl.allB A) ++ Vl.allB B; rw [ih, ByteArray.append_assoc]
theorem Vl.allB_take (L : List Vl.V) (k : Nat) (hk : k < L.length) : Vl.allB (L.take (k + 1)) = Vl.allB (L.take k) ++ Vl.bytes L[k] := by
  rw [List.take_succ_eq_append_getElem hk, Vl.allB_app]
  show _ ++ (Vl.bytes L[k] ++ Vl.mt) = _
  rw [Vl.append_mt]
theorem Vl.allB_size : ∀ (L : List Vl.V), (∀ v ∈ L, Vl.right v ∧ -9223372036854775808 ≤ v.n ∧ v.n ≤ 9223372036854775807) → (Vl.allB L).size ≤ 70 * L.length
  | [], _ => Nat.zero_le _
  | x :: L, h => by
    obtain ⟨h1, h2, h3⟩ := h x (by simp)
    have ih := allB_size L fun y hy => h y (by simp [hy])
    have hx := bytes_size h1 h2 h3
    show (Vl.bytes x ++ Vl.allB L).size ≤ _
    rw [ByteArray.size_append, List.length_cons]; omega
/-- what stands of a row ahead of element k -/
def rowTo (L : List Vl.V) (k : Nat) : ByteArray := Oct.numB L.length ++ Vl.allB (L.take k)
theorem rowTo_zero (L : List Vl.V) : rowTo L 0 = Oct.numB L.length := by unfold rowTo; rw [List.take_zero]; exact Vl.append_mt _
theorem rowTo_next (L : List Vl.V) (k : Nat) (hk : k < L.length) : rowTo L (k + 1) = rowTo L k ++ Vl.bytes L[k] := by unfold rowTo; rw [Vl.allB_take L k hk, ByteArray.append_assoc]
theorem rowTo_end (L : List Vl.V) (k : Nat) (hk : ¬ k < L.length) : rowTo L k = Vl.row L := by unfold rowTo Vl.row; rw [List.take_of_length_le (by omega)]
theorem rowTo_size (L : List Vl.V) (k : Nat) (hL : L.length ≤ 1000) (h : AllRight (L.take k)) (hS : ∀ x ∈ L, Fits x) : (rowTo L k).size ≤ 70010 := by
  have l1 := Oct.numB_len (L.length : Int) (by omega) (by omega)
  have l2 := Vl.allB_size (L.take k) fun v hv => ⟨h v hv, (hS v (List.mem_of_mem_take hv)).1, (hS v (List.mem_of_mem_take hv)).2.1⟩
  have l3 : (L.take k).length ≤ 1000 := by rw [List.length_take]; omega
  unfold rowTo; rw [ByteArray.size_append]; omega
end Go.Proofs.YtmkckbidfpinfaaDoor

/-
  Layer 12: a row's bytes, the program's; whether two rows are the same.
-/
namespace Go.Proofs.YtmkckbidfpinfaaDoor
open Go.RowKit
/-- what Row tells -/
def rowB (L : List Vl.V) : ByteArray := if AllRight L then Vl.row L else Vl.mt
def rowE (L : List Vl.V) : Int := if AllRight L then 0 else 2
theorem row_yes {L : List Vl.V} (h : AllRight L) : rowB L = Vl.row L ∧ rowE L = 0 := ⟨if_pos h, if_pos h⟩
theorem row_no {L : List Vl.V} (h : ¬ AllRight L) : rowB L = Vl.mt ∧ rowE L = 2 := ⟨if_neg h, if_neg h⟩
theorem list_of (A : ByteArray) : (⟨A.data.toList.toArray⟩ : ByteArray) = A := by apply Sl.ba_ext; rfl
theorem same_take {L M : List Vl.V} {k : Nat} (h : L.take k = M.take k) (h1 : k < L.length) (h2 : k < M.length) (hx : L[k] = M[k]) : L.take (k + 1) = M.take (k + 1) := by
  rw [List.take_succ_eq_append_getElem h1, List.take_succ_eq_append_getElem h2, h, hx]
theorem same_full {L M : List Vl.V} {k : Nat} (h : L.take k = M.take k) (hl : L.length = M.length) (hk : ¬ k < L.length) : L = M := by
  rwa [List.take_of_length_le (by omega), List.take_of_length_le (by omega)] at h
theorem same_not {L M : List Vl.V} {k : Nat} (h1 : k < L.length) (h2 : k < M.length) (hx : ¬ L[k] = M[k]) : ¬ L = M := fun e => by subst e; exact hx rfl
end Go.Proofs.YtmkckbidfpinfaaDoor

/-
  Layer 12's laws: arguments that are values, and lists of them, opened.
-/
namespace Go.Proofs.YtmkckbidfpinfaaDoor
open Go.ChangeShapes Go.WideShapes Go.RowKit
/-- a list of values that an argument may be -/
def ReadsVF (w : World) (a : Option Addr) (L : List Vl.V) : Prop := ReadsV w a L ∧ ∀ x ∈ L, Fits x
section
variable {H : Type} {enc : TypeId × Value → H} {w : World} {base : Nat} {spare : Nat → Bool} {held : Bool}
theorem add_mid12 (b off k : Nat) : (⟨b, off, none⟩ : Addr).add k = ⟨b, off + k, none⟩ := by unfold Addr.add; split <;> simp_all
theorem one_cell12 {l : List Value} {k : Nat} (h : k < l.length) : (l.drop k).take 1 = [l[k]] := by
  rw [List.drop_eq_getElem_cons h]; rfl
set_option maxRecDepth 100000 in
theorem val_frame {fuel : Nat} {cs : List Value} {x : DataW H × List MemPlace} (h : DataW.trod enc Tryd.prog w base spare held fuel 33 cs = some x) : ∃ l : Vl.V, cs = (valC l).toList ∧ Fits l := by
  have hC : Tryd.prog.cellsOf 33 = 3 := by kernel_rfl
  obtain ⟨ys, n', _, _, hcl, hyl, hf⟩ := DataW.trod_struct Tryd.underlying33 h
  rw [hC] at hcl
  have hyl4 : ys.length = 3 := hyl
  have g0 : DataW.trod enc Tryd.prog w base spare held n' 23 ((cs.drop 0).take (Tryd.prog.cellsOf 23)) = ys[0]? := hf 0 _ rfl
  have g1 : DataW.trod enc Tryd.prog w base spare held n' 3 ((cs.drop 1).take (Tryd.prog.cellsOf 3)) = ys[1]? := hf 1 _ rfl
  have g2 : DataW.trod enc Tryd.prog w base spare held n' 9 ((cs.drop 2).take (Tryd.prog.cellsOf 9)) = ys[2]? := hf 2 _ rfl
  rw [List.getElem?_eq_getElem (by omega)] at g0 g1 g2
  have kk : Tryd.prog.cellsOf 23 = 1 := by kernel_rfl
  have k0 : Tryd.prog.cellsOf 3 = 1 := by kernel_rfl
  have ks : Tryd.prog.cellsOf 9 = 1 := by kernel_rfl
  rw [kk, one_cell12 (by omega)] at g0
  rw [k0, one_cell12 (by omega)] at g1
  rw [ks, one_cell12 (by omega)] at g2
  obtain ⟨z0, e0, _, _⟩ := DataW.trod_int Tryd.underlying23 g0
  obtain ⟨z1, e1, _, w1⟩ := DataW.trod_int Tryd.underlying3 g1
  obtain ⟨z2, e2, _, w2⟩ := DataW.trod_string Tryd.underlying9 g2
  simp only [List.cons.injEq, and_true] at e0 e1 e2
  refine ⟨⟨z0, z1, z2⟩, ?_, ?_⟩
  · obtain ⟨a, b, c, rfl⟩ : ∃ a b c, cs = [a, b, c] := by
      rcases cs with _ | ⟨a, _ | ⟨b, _ | ⟨c, _ | ⟨e, r⟩⟩⟩⟩
      · exact absurd hcl (by simp)
      · exact absurd hcl (by simp)
      · exact absurd hcl (by simp)
      · exact ⟨a, b, c, rfl⟩
      · exact absurd hcl (by simp)
    simp only [List.getElem_cons_zero, List.getElem_cons_succ] at e0 e1 e2
    rw [e0, e1, e2]
  · exact ⟨(bounds_i64 w1).1, (bounds_i64 w1).2, w2⟩
theorem vals_frame {fuel : Nat} {cs : List Value} {x : DataW H × List MemPlace} (h : DataW.trod enc Tryd.prog w base spare held fuel 47 cs = some x) (hsp : ∀ b, spare b = true) :
    ∃ (a : Option Addr) (L : List Vl.V) (cap : Nat), cs = [.slice a L.length cap] ∧ ReadsVF w a L ∧ L.length ≤ maxLen := by
  have hC : Tryd.prog.cellsOf 33 = 3 := by kernel_rfl
  rcases Go.Deep.open_slice Tryd.underlying47 h with ⟨hcs, _⟩ | ⟨a, len, cap, m, n, D, Pl, hcs, _, hl, hm, hmm, _, hi⟩
  · exact ⟨none, [], 0, hcs, ⟨readsV_none _ _, fun x hx => by simp at hx⟩, Nat.zero_le _⟩
  · rw [hsp, if_pos rfl] at hmm
    subst hmm
    have one : ∀ i, i < m → ∃ y : Vl.V, (w.cell? (a.add (i * 3)) = some (.int .i64 y.kind) ∧ w.cell? (a.add (i * 3 + 1)) = some (.int .i64 y.n) ∧ w.cell? (a.add (i * 3 + 2)) = some (.string y.s)) ∧ Fits y := by
      intro i him
      obtain ⟨cs', hc, ht⟩ := hi i him
      rw [hC] at hc
      obtain ⟨_, hcl, hat⟩ := World.cells?_some hc
      obtain ⟨y, hy, hf⟩ := val_frame ht
      have c0 := hat 0 (by omega)
      have c1 := hat 1 (by omega)
      have c2 := hat 2 (by omega)
      rw [Go.Deep.add_add] at c0 c1 c2
      subst hy
      exact ⟨y, ⟨c0, c1, c2⟩, hf⟩
    have : Inhabited Vl.V := ⟨Vl.no⟩
    obtain ⟨f, hfam⟩ := Go.Deep.choose_lt one
    have hlen : ((List.range len).map f).length = len := by rw [List.length_map, List.length_range]
    have eL : ∀ i (h : i < ((List.range len).map f).length), ((List.range len).map f)[i] = f i := fun i h => by rw [List.getElem_map, List.getElem_range]
    refine ⟨some a, (List.range len).map f, m, by rw [hlen]; exact hcs, ⟨fun i hi2 => ?_, fun x hx => ?_⟩, by rw [hlen]; omega⟩
    · have hi3 := hi2
      rw [hlen] at hi3
      have hy := hfam i (by omega)
      rw [eL i hi2]
      have hc0 := hfam 0 (by omega)
      have ha := hc0.1.1
      have e0 : a.add (0 * 3) = a := by simp [Addr.add]
      rw [e0] at ha
      obtain ⟨b, o, s⟩ := a
      obtain rfl : s = none := World.cell?_spot ha
      obtain ⟨⟨h1, h2, h3⟩, _⟩ := hy
      rw [add_mid12] at h1 h2 h3
      exact ⟨b, o, rfl, h1, by rw [Nat.add_assoc]; exact h2, by rw [Nat.add_assoc]; exact h3⟩
    · obtain ⟨i, hi2, rfl⟩ := List.getElem_of_mem hx
      rw [eL i hi2]
      rw [hlen] at hi2
      exact (hfam i (by omega)).2
end
end Go.Proofs.YtmkckbidfpinfaaDoor

/-
  Layer 13: what the rows' condition on the listed variables gives the walks; the program's own start meets it.
-/
namespace Go.Proofs.YtmkckbidfpinfaaDoor
open Go.RowKit
def laidL : List (String × DataW Unit) := [("math/bits.deBruijn32tab", Rows.laid_math_bits_deBruijn32tab), ("math/bits.deBruijn64tab", Rows.laid_math_bits_deBruijn64tab), ("internal/strconv.uint64pow10", Rows.laid_internal_strconv_uint64pow10), ("strconv.ErrRange", Rows.laid_strconv_ErrRange), ("strconv.ErrSyntax", Rows.laid_strconv_ErrSyntax)]
theorem gPow10 : Tryd.prog.globalNamed "internal/strconv.uint64pow10" = some 3 := by kernel_rfl
theorem tPow10 : (Tryd.prog.globals[3]?).map (·.type) = some 181 := by kernel_rfl
theorem cellsU64 : Tryd.prog.cellsOf 154 = 1 := by kernel_rfl
theorem cells20 : Tryd.prog.cellsOf 181 = 20 := by kernel_rfl
theorem laid_pow10 : (Rows.laid_internal_strconv_uint64pow10 : DataW Unit) = Lib.tabData .u64 Lib.pow10Tab := by kernel_rfl
/-- without the first -/
theorem laidMet_tail {P : Program} {x : String × DataW Unit} {rest : List (String × DataW Unit)} {W : World} (h : laidMet P (x :: rest) W) : laidMet P rest W := by
  obtain ⟨ps, ⟨g', t', cs, fuel, p, q, _, _, _, _, hr, hps⟩, hn, hb⟩ := h
  subst hps
  exact ⟨q, hr, (List.nodup_append.1 hn).2.1, fun b off hm => hb b off (List.mem_append_right _ hm)⟩
theorem door_met (os : Os) (args : Array Value) : laidMetH Tryd.prog laidL ((World.doorLaid Tryd.prog 400 os).forCall (fun _ _ => 0) ⟨#[], args, []⟩).memory :=
  laidMetH_of_parts3 (fuel := 8) (laidMet_of_run' 8 (by kernel_rfl) (by kernel_rfl)) (by kernel_rfl) (by kernel_rfl)
theorem gErrRange : Tryd.prog.globalNamed "strconv.ErrRange" = some 1 := by kernel_rfl
theorem tErrRange : (Tryd.prog.globals[1]?).map (·.type) = some 113 := by kernel_rfl
/-- an error variable that reads as an interface over something holds one -/
theorem trod_iface {P : Program} {H : Type} {enc : TypeId × Value → H} {w : World} {base : Nat} {spare : Nat → Bool} {held : Bool} {fuel : Nat} {t : TypeId} {cs : List Value} {k : Array (String × TypeId)} {ty : String} {d : DataW H} {p : List MemPlace}
    (ht : P.underlying t = some (.interface k)) (h : DataW.trod enc P w base spare held fuel t cs = some (.iface ty d, p)) : ∃ te pe, cs = [.iface te pe] := by
  cases fuel with
  | zero => simp [DataW.trod] at h
  | succ n =>
    unfold DataW.trod at h
    rw [ht] at h
    split at h <;> simp_all
theorem err_of_head {P : Program} {W : World} {name ty : String} {d : DataW Unit} {rest : List (String × DataW Unit)} {g t : Nat} {k : Array (String × TypeId)}
    (hg : P.globalNamed name = some g) (hty : (P.globals[g]?).map (·.type) = some t) (ht : P.underlying t = some (.interface k)) (h : laidMet P ((name, .iface ty d) :: rest) W) : ∃ te pe, W.cell? ⟨g, 0, none⟩ = some (.iface te pe) := by
  obtain ⟨ps, ⟨g', t', cs, fuel, p, q, hg', ht', hvar, hd, _, _⟩, _⟩ := h
  obtain rfl := Option.some.inj (hg.symm.trans hg')
  obtain rfl := Option.some.inj (hty.symm.trans ht')
  obtain ⟨te, pe, hcs⟩ := trod_iface ht hd
  refine ⟨te, pe, ?_⟩
  have := World.var?_cell hg hvar 0
  rw [this]
  obtain ⟨l⟩ := cs
  have hl : l = [.iface te pe] := hcs
  rw [hl]; rfl
/-- the tables and the error, out of the condition -/
theorem facts_of_laid {W : World} (h : laidMetH Tryd.prog laidL W) : Facts13 W := by
  rw [MakeChecks.laidMetH_plain _ _ _ (by kernel_rfl)] at h
  have h3 := laidMet_tail (laidMet_tail h)
  have h4 := laidMet_tail h3
  rw [laid_pow10] at h3
  exact ⟨Lib.tabIs_of_head gPow10 tPow10 Tryd.underlying181 Tryd.underlying154 cellsU64 cells20 h3, err_of_head gErrRange tErrRange Tryd.underlying113 h4⟩
end Go.Proofs.YtmkckbidfpinfaaDoor
