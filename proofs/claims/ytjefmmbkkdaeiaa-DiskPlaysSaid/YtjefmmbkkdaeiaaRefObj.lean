/-
  Layer 4: the document's disk in memory, and what its small calls do.
-/
import Derived.Test.YtjefmmbkkdaeiaaListAt
import Derived.Test.YtjefmmbkkdaeiaaDskMath
namespace Go.Proofs.Ytjefmmbkkdaeiaa
open Go.RowKit

def sB (s : ByteArray) : List Value := [.string s]
def lwv (x : Nat × ByteArray) : List Value := [.int .i64 (x.1 : Int), .string x.2]
def RHead (w : World) (q cb cw : Nat) (lb lw : Option Addr) (d : Dk.D) : Prop := RowV w q 39 [.slice lb d.B.length cb, .slice lw d.W.length cw, .int .i64 d.fuse, .bool d.gone]
/-- the document's disk at block q -/
structure RefIn (w : World) (S : Nat → Prop) (q cb cw : Nat) (lb lw : Option Addr) (d : Dk.D) : Prop where
  ok : Dk.Ok d
  head : RHead w q cb cw lb lw d
  blocks : ListAt sB 1 9 w S (fun x => x = q) lb cb d.B
  loose : ListAt lwv 2 75 w S (fun x => x = q ∨ ∃ a, lb = some a ∧ a.block = x) lw cw d.W
  sq : S q
def RefAt (w : World) (S : Nat → Prop) (q : Nat) (d : Dk.D) : Prop := ∃ cb cw lb lw, RefIn w S q cb cw lb lw d
theorem refIn_only {F S : Nat → Prop} {w w' : World} {q cb cw : Nat} {lb lw : Option Addr} {d : Dk.D} (h : RefIn w S q cb cw lb lw d) (ho : Only F w w') (hn : ∀ k, k < w.heap.size → S k → ¬ F k) : RefIn w' S q cb cw lb lw d := by
  refine ⟨h.ok, rowV_only h.head ho (hn _ (rowV_lt h.head) h.sq), listAt_only h.blocks ho fun a ha => ?_, listAt_only h.loose ho fun a ha => ?_, h.sq⟩
  · obtain ⟨g, rfl, h1, h2, _⟩ := listAt_block h.blocks a ha
    exact hn _ h1 h2
  · obtain ⟨g, rfl, h1, h2, _⟩ := listAt_block h.loose a ha
    exact hn _ h1 h2
theorem refIn_mono {S S' : Nat → Prop} {w : World} {q cb cw : Nat} {lb lw : Option Addr} {d : Dk.D} (h : RefIn w S q cb cw lb lw d) (hs : ∀ k, k < w.heap.size → S k → S' k) : RefIn w S' q cb cw lb lw d :=
  ⟨h.ok, h.head, listAt_mono h.blocks hs fun _ _ h => h, listAt_mono h.loose hs fun _ _ h => h, hs _ (rowV_lt h.head) h.sq⟩
theorem refAt_only {F S : Nat → Prop} {w w' : World} {q : Nat} {d : Dk.D} (h : RefAt w S q d) (ho : Only F w w') (hn : ∀ k, k < w.heap.size → S k → ¬ F k) : RefAt w' S q d := by
  obtain ⟨_, _, _, _, h⟩ := h
  exact ⟨_, _, _, _, refIn_only h ho hn⟩
theorem refAt_mono {S S' : Nat → Prop} {w : World} {q : Nat} {d : Dk.D} (h : RefAt w S q d) (hs : ∀ k, k < w.heap.size → S k → S' k) : RefAt w S' q d := by
  obtain ⟨_, _, _, _, h⟩ := h
  exact ⟨_, _, _, _, refIn_mono h hs⟩
theorem sB_len (x : ByteArray) : (sB x).length = 1 := rfl
theorem lwv_len (x : Nat × ByteArray) : (lwv x).length = 2 := rfl
theorem lwv_one (x : Nat × ByteArray) : ∀ v ∈ lwv x, v.oneCell' = true := by
  intro v hv
  simp only [lwv, List.mem_cons, List.not_mem_nil, or_false] at hv
  rcases hv with rfl | rfl <;> rfl

section
variable {w : World} {S Av : Nat → Prop} {q cb cw : Nat} {lb lw : Option Addr} {d : Dk.D} {B : List ByteArray} {W : List (Nat × ByteArray)}
theorem rhead_B (h : RHead w q cb cw lb lw d) : w.cell? ⟨q, 0, none⟩ = some (.slice lb d.B.length cb) := rowV_cell h 0
theorem rhead_W (h : RHead w q cb cw lb lw d) : w.cell? ⟨q, 1, none⟩ = some (.slice lw d.W.length cw) := rowV_cell h 1
theorem rhead_fuse (h : RHead w q cb cw lb lw d) : w.cell? ⟨q, 2, none⟩ = some (.int .i64 d.fuse) := rowV_cell h 2
theorem rhead_gone (h : RHead w q cb cw lb lw d) : w.cell? ⟨q, 3, none⟩ = some (.bool d.gone) := rowV_cell h 3
/-- block i of the document's disk -/
theorem ref_block (h : ListAt sB 1 9 w S Av lb cb B) (i : Nat) (hi : i < B.length) : ∃ g, lb = some ⟨g, 0, none⟩ ∧ w.cell? ⟨g, i, none⟩ = some (.string (Dk.blk B i)) ∧ w.frozen? ⟨g, i, none⟩ = false := by
  obtain ⟨g, h1, h2⟩ := listAt_cell h (fun _ _ => rfl) i hi
  have h3 := h2 0 _ rfl
  rw [Nat.mul_one, Nat.add_zero] at h3
  exact ⟨g, h1, by rw [h3.1, ← Dk.getD_get B i ByteArray.empty hi], h3.2⟩
theorem ref_set (h : ListAt sB 1 9 w S Av lb cb B) (g : Nat) (hg : lb = some ⟨g, 0, none⟩) (i : Nat) (hi : i < B.length) (s : ByteArray) : ListAt sB 1 9 (w.setCell ⟨g, i, none⟩ (.string s)) S Av lb cb (B.set i s) := by
  rcases h with ⟨h1, _⟩ | ⟨g', r, h1, h2, h3, h4, h5, h6, h7⟩
  · rw [h1] at hg; cases hg
  · rw [h1] at hg
    cases hg
    have hst := rowV_stored h2 i (.string s)
    have e : (B.flatMap sB ++ r).set i (.string s) = (B.set i s).flatMap sB ++ r := by
      have hl := flat_len sB 1 B fun _ _ => rfl
      have := flat_set sB 1 B (fun _ _ => rfl) i hi s r
      rw [← this, Nat.mul_one]
      have hil : i < (B.flatMap sB ++ r).length := by rw [List.length_append, hl]; omega
      rw [List.set_eq_take_append_cons_drop, if_pos hil, List.append_assoc]
      rfl
    rw [e] at hst
    exact .inr ⟨_, r, h1, hst, by rw [List.length_set]; exact h3, h4, h5, h6, by rw [List.length_set]; exact h7⟩
/-- loose write k of the document's disk -/
theorem ref_loose (h : ListAt lwv 2 75 w S Av lw cw W) (k : Nat) (hk : k < W.length) : ∃ g, lw = some ⟨g, 0, none⟩ ∧ w.cell? ⟨g, k * 2, none⟩ = some (.int .i64 ((W.getD k (0, ByteArray.empty)).1 : Int)) ∧ w.cell? ⟨g, k * 2 + 1, none⟩ = some (.string (W.getD k (0, ByteArray.empty)).2) := by
  obtain ⟨g, h1, h2⟩ := listAt_cell h (fun _ _ => rfl) k hk
  rw [Dk.getD_get W k (0, ByteArray.empty) hk]
  exact ⟨g, h1, (h2 0 _ rfl).1, (h2 1 _ rfl).1⟩

set_option maxRecDepth 100000 in
theorem there_any (h : RHead w q cb cw lb lw d) (i : Int) : Calls Try.prog 35 #[.pointer (some ⟨q, 0, none⟩), .int .i64 i] w fun e w' => e = .returned (.bool (decide (0 ≤ i ∧ i < d.B.length))) ∧ w' = w := by
  have c0 := rhead_B h
  clear h
  by_cases h1 : 0 ≤ i
  · by_cases h2 : i < d.B.length
    · go_enter Try.func35, Try.ntmps35
      go_wp2_with fail
      go_ret
      exact ⟨ret_bool (by simp [h1, h2]), rfl⟩
    · go_enter Try.func35, Try.ntmps35
      go_wp2_with fail
      go_ret
      exact ⟨ret_bool (by simp [h2]), rfl⟩
  · go_enter Try.func35, Try.ntmps35
    go_wp2_with fail
    go_ret
    exact ⟨ret_bool (by simp; omega), rfl⟩
set_option maxRecDepth 100000 in
theorem goes_any (h : RHead w q cb cw lb lw d) (hd : Dk.Ok d) : Calls Try.prog 36 #[.pointer (some ⟨q, 0, none⟩)] w fun e w' => e = .returned (.bool (decide (d.fuse = 0))) ∧ RHead w' q cb cw lb lw (Dk.spent d) ∧ Only (fun k => k = q) w w' := by
  have c3 := rhead_fuse h
  have f3 := rowV_frozen h 2
  have c4 := rhead_gone h
  have f4 := rowV_frozen h 3
  have hh := hd.high
  by_cases h0 : d.fuse = 0
  · have hst := rowV_stored h 3 (.bool true)
    have ho := (Only.refl (fun k => k = q) w).setCell (g := q) (i := 3) (fun _ => rfl) (.bool true)
    have e1 : Dk.spent d = { d with gone := true } := by unfold Dk.spent; rw [if_pos h0]
    rw [h0] at c3
    rw [decide_eq_true h0]
    have HH := Lib.hid (And.intro hst (And.intro ho (And.intro e1 h0))); clear h hst ho e1 h0 hd hh
    go_enter Try.func36, Try.ntmps36
    go_wp2_with fail
    go_ret
    exact ⟨rfl, by rw [HH.out.2.2.1]; exact HH.out.1, HH.out.2.1⟩
  · have t0 : (d.fuse == 0) = false := by rw [beq_eq_false_iff_ne]; exact h0
    rw [decide_eq_false h0]
    by_cases h1 : 0 < d.fuse
    · have hst := rowV_stored h 2 (.int .i64 (d.fuse - 1))
      have ho := (Only.refl (fun k => k = q) w).setCell (g := q) (i := 2) (fun _ => rfl) (.int .i64 (d.fuse - 1))
      have e1 : Dk.spent d = { d with fuse := d.fuse - 1 } := by unfold Dk.spent Dk.burn; rw [if_neg h0, if_pos h1]
      have HH := Lib.hid (And.intro hst (And.intro ho (And.intro e1 h0))); clear h hst ho e1 h0 hd
      go_enter Try.func36, Try.ntmps36
      go_wp2_with fail
      go_ret
      exact ⟨rfl, by rw [HH.out.2.2.1]; exact HH.out.1, HH.out.2.1⟩
    · have e1 : Dk.spent d = { d with fuse := d.fuse } := by unfold Dk.spent Dk.burn; rw [if_neg h0, if_neg h1]
      have HH := Lib.hid (And.intro h (And.intro e1 h0)); clear h e1 h0 hd
      go_enter Try.func36, Try.ntmps36
      go_wp2_with fail
      go_ret
      exact ⟨rfl, by rw [HH.out.2.1]; exact HH.out.1, Only.refl _ _⟩
set_option maxRecDepth 100000 in
theorem rarm_any (h : RHead w q cb cw lb lw d) (n : Int) : Calls Try.prog 25 #[.pointer (some ⟨q, 0, none⟩), .int .i64 n] w fun e w' => e = .returned (.int .i64 (Dk.armE d)) ∧ RHead w' q cb cw lb lw (Dk.arm d n) ∧ Only (fun k => k = q) w w' := by
  have c3 := rhead_fuse h
  have f3 := rowV_frozen h 2
  have c4 := rhead_gone h
  have hst := rowV_stored h 2 (.int .i64 n)
  have ho := (Only.refl (fun k => k = q) w).setCell (g := q) (i := 2) (fun _ => rfl) (.int .i64 n)
  have HH := Lib.hid (And.intro h (And.intro hst ho)); clear h hst ho
  cases hg : d.gone with
  | true =>
    have e1 : Dk.arm d n = d := by unfold Dk.arm; rw [if_pos hg]
    have e2 : Dk.armE d = 7 := by unfold Dk.armE; rw [if_pos hg]
    rw [hg] at c4
    rw [e1, e2]
    clear e1 e2 hg
    go_enter Try.func25, Try.ntmps25
    go_wp2_with fail
    go_ret
    exact ⟨rfl, HH.out.1, Only.refl _ _⟩
  | false =>
    have e1 : Dk.arm d n = { d with fuse := n } := by unfold Dk.arm; rw [if_neg (by rw [hg]; simp)]
    have e2 : Dk.armE d = 0 := by unfold Dk.armE; rw [if_neg (by rw [hg]; simp)]
    rw [hg] at c4
    rw [e1, e2]
    clear e1 e2 hg
    go_enter Try.func25, Try.ntmps25
    go_wp2_with fail
    go_ret
    exact ⟨rfl, HH.out.2.1, HH.out.2.2⟩
end
end Go.Proofs.Ytjefmmbkkdaeiaa
