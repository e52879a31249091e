/-
  The plain mathematics of layer 10 (tree): pairs put, cut, edited, scanned, by the loops' own order; nothing of any program. And the document's 'in' and 'May'; a slice of edits.
-/
import Derived.Test.YtlhhecomjhfhjaaNodRef
import Derived.Test.YtlhhecomjhfhjaaNodeFind
import Derived.Test.YtlhhecomjhfhjaaPairOwn
import Derived.BigQuiet
namespace Go.Proofs.Ytlhhecomjhfhjaa
open Go.RowKit
namespace Tr
abbrev Prs := List (ByteArray × ByteArray)
/-- is a key within? -/
def within (key from_ to : ByteArray) : Bool := !Op.bytesLess key.toList from_.toList && (to.toList.isEmpty || Op.bytesLess key.toList to.toList)
/-- an edit -/
structure Ed where
  key : ByteArray
  val : ByteArray
  cut : Bool
  to : ByteArray
def badE (x : Ed) : Bool := decide (48 < x.key.size) || (x.cut && decide (48 < x.to.size)) || (!x.cut && (decide (x.key.size < 1) || decide (160 < x.val.size)))
def may (l : List Ed) (note : ByteArray) : Bool := !l.any badE && (decide (l.length ≤ 64) && decide (note.size ≤ 400))
/-- what Put makes of the rest, where the key is put already, or not -/
def putG (key val : ByteArray) : Bool → Prs → Prs
  | d, [] => if d = true then [] else [(key, val)]
  | d, x :: L => (if d = false ∧ Op.bytesLess x.1.toList key.toList = false then [(key, val)] else []) ++ ((if x.1 = key then [] else [x]) ++ putG key val (d || !Op.bytesLess x.1.toList key.toList) L)
def put (L : Prs) (key val : ByteArray) : Prs := putG key val false L
def editE (L : Prs) (x : Ed) : Prs := if x.cut = true then L.filter (fun p => !within p.1 x.key x.to) else put L x.key x.val
def edited (L : Prs) (es : List Ed) : Prs := es.foldl editE L
/-- what Scan makes of the rest, where it has n -/
def scanG (fr to : ByteArray) (most : Int) : Nat → Prs → Prs
  | _, [] => []
  | n, x :: L => if within x.1 fr to = true ∧ (most < 0 ∨ (n : Int) < most) then x :: scanG fr to most (n + 1) L else scanG fr to most n L
def scan (L : Prs) (fr to : ByteArray) (most : Int) : Prs := scanG fr to most 0 L
theorem scanG_eq (fr to : ByteArray) (most : Int) : ∀ (L : Prs) (n : Nat), scanG fr to most n L = if most < 0 then L.filter (fun p => within p.1 fr to) else (L.filter (fun p => within p.1 fr to)).take (most.toNat - n)
  | [], n => by unfold scanG; split <;> simp
  | x :: L, n => by
    unfold scanG
    rw [scanG_eq fr to most L (n + 1), scanG_eq fr to most L n]
    by_cases hw : within x.1 fr to = true
    · rw [List.filter_cons_of_pos (by simpa using hw)]
      by_cases hm : most < 0
      · rw [if_pos ⟨hw, .inl hm⟩, if_pos hm, if_pos hm]
      · rw [if_neg hm, if_neg hm]
        by_cases hn : (n : Int) < most
        · rw [if_pos ⟨hw, .inr hn⟩, if_neg hm, show most.toNat - n = (most.toNat - (n + 1)) + 1 by omega, List.take_succ_cons]
        · rw [if_neg (fun h => by rcases h.2 with h | h <;> omega), show most.toNat - n = 0 by omega, List.take_zero, List.take_zero, if_neg hm]
    · rw [if_neg (fun h => hw h.1), List.filter_cons_of_neg (by simpa using hw)]
theorem scan_all (L : Prs) : scan L ⟨#[]⟩ ⟨#[]⟩ (-1) = L := by
  unfold scan
  rw [scanG_eq, if_pos (by omega)]
  refine List.filter_eq_self.2 fun p _ => ?_
  have e : (⟨#[]⟩ : ByteArray).toList = [] := by rw [ByteArray.toList_eq]
  unfold within
  rw [e]
  cases p.1.toList <;> rfl
theorem scanG_len (fr to : ByteArray) (most : Int) : ∀ (L : Prs) (n : Nat), (scanG fr to most n L).length ≤ L.length
  | [], _ => Nat.zero_le _
  | x :: L, n => by
    have h1 := scanG_len fr to most L n
    have h2 := scanG_len fr to most L (n + 1)
    unfold scanG
    split
    · simp only [List.length_cons]; omega
    · simp only [List.length_cons]; omega
theorem putG_len (key val : ByteArray) : ∀ (L : Prs) (d : Bool), (putG key val d L).length ≤ L.length + 1
  | [], d => by unfold putG; split <;> simp
  | x :: L, d => by
    have h := putG_len key val L
    have ht : ∀ L : Prs, (putG key val true L).length ≤ L.length := by
      intro L
      induction L with
      | nil => exact Nat.zero_le _
      | cons y L ih =>
        unfold putG
        rw [if_neg (by simp), List.nil_append, List.length_append, List.length_cons, Bool.true_or]
        split <;> simp <;> omega
    unfold putG
    rw [List.length_append, List.length_append, List.length_cons]
    cases d with
    | true =>
      rw [if_neg (by simp), Bool.true_or]
      have := ht L
      split <;> simp <;> omega
    | false =>
      cases hb : Op.bytesLess x.1.toList key.toList with
      | true =>
        rw [if_neg (by simp)]
        have := h false
        simp only [Bool.not_true, Bool.or_false] at this ⊢
        split <;> simp <;> omega
      | false =>
        rw [if_pos ⟨rfl, rfl⟩]
        have := ht L
        simp only [Bool.not_false, Bool.or_true]
        split <;> simp <;> omega
theorem put_len (L : Prs) (key val : ByteArray) : (put L key val).length ≤ L.length + 1 := putG_len key val L false
theorem editE_len (L : Prs) (x : Ed) : (editE L x).length ≤ L.length + 1 := by
  unfold editE
  split
  · have := List.length_filter_le (fun p : ByteArray × ByteArray => !within p.1 x.key x.to) L; omega
  · exact put_len L _ _
theorem edited_len : ∀ (es : List Ed) (L : Prs), (edited L es).length ≤ L.length + es.length
  | [], L => Nat.le_refl _
  | x :: es, L => by
    have h1 := edited_len es (editE L x)
    have h2 := editE_len L x
    show (edited (editE L x) es).length ≤ _
    rw [List.length_cons]; omega
end Tr
/-- the slice at a reads as the edits L -/
def ReadsE (w : World) (a : Option Addr) (L : List Tr.Ed) : Prop := ∀ i (h : i < L.length), ∃ b off, a = some ⟨b, off, none⟩ ∧ w.cell? ⟨b, off + i * 4, none⟩ = some (.string L[i].key) ∧ w.cell? ⟨b, off + i * 4 + 1, none⟩ = some (.string L[i].val) ∧ w.cell? ⟨b, off + i * 4 + 2, none⟩ = some (.bool L[i].cut) ∧ w.cell? ⟨b, off + i * 4 + 3, none⟩ = some (.string L[i].to)
section
variable {w w' : World} {a : Option Addr} {L : List Tr.Ed}
theorem readsE_none (w : World) (a : Option Addr) : ReadsE w a [] := by intro i hi; simp at hi
theorem readsE_only {F : Nat → Prop} (h : ReadsE w a L) (ho : Only F w w') (hn : ∀ b, a = some b → ¬ F b.block) : ReadsE w' a L := by
  intro i hi
  obtain ⟨b, off, h1, h2, h3, h4, h5⟩ := h i hi
  have hF : ¬ F b := hn _ h1
  exact ⟨b, off, h1, (ho.cell (World.block_lt_of_cell? w _ h2) hF).trans h2, (ho.cell (World.block_lt_of_cell? w _ h3) hF).trans h3, (ho.cell (World.block_lt_of_cell? w _ h4) hF).trans h4, (ho.cell (World.block_lt_of_cell? w _ h5) hF).trans h5⟩
theorem readsE_below (h : ReadsE w a L) (hb : Below w.heap.size w w') : ReadsE w' a L := readsE_only h (Only.of_none (F := fun _ => False) hb) fun _ _ h => h
end
theorem ed_box {w : World} (key val to : ByteArray) (cut : Bool) : ∃ w1, w1 = w.alloc (.cells #[.string key, .string val, .bool cut, .string to] 30) ∧ Below w.heap.size w w1 ∧ RowV w1 w.heap.size 30 [.string key, .string val, .bool cut, .string to] :=
  ⟨_, rfl, (Below.refl w.heap.size w).alloc (Nat.le_refl _) _, rowV_new w 30 _⟩
end Go.Proofs.Ytlhhecomjhfhjaa
