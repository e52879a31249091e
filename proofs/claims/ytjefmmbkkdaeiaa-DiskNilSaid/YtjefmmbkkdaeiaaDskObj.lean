/-
  Layer 4: the program's disk in memory, and what its small calls do.
-/
import Derived.Test.YtjefmmbkkdaeiaaDskArr
import Derived.Test.YtjefmmbkkdaeiaaDskMath
namespace Go.Proofs.Ytjefmmbkkdaeiaa
open Go.RowKit

/-- a loose write's cells -/
def wv (x : Nat × ByteArray) : List Value := .int .i64 (x.1 : Int) :: bv x.2
/-- a disk's own cells -/
def HeadAt (w : World) (p gn gk cn ck : Nat) (la : Option Addr) (cap : Nat) (d : Dk.D) : Prop :=
  RowV w p 55 [.slice (some ⟨gn, 0, none⟩) d.B.length cn, .slice (some ⟨gk, 0, none⟩) d.B.length ck, .slice la d.W.length cap, .int .i64 d.fuse, .bool d.gone]
/-- a loose list in memory: what lies behind its length is the disk's own, where there is room -/
def LooseAt (w : World) (S : Nat → Prop) (p gn gk : Nat) (la : Option Addr) (cap : Nat) (W : List (Nat × ByteArray)) : Prop :=
  (la = none ∧ cap = 0 ∧ W = []) ∨ ∃ g r, la = some ⟨g, 0, none⟩ ∧ RowV w g 69 (W.flatMap wv ++ r) ∧ W.length ≤ cap ∧ cap ≤ maxLen ∧ g ≠ p ∧ g ≠ gn ∧ g ≠ gk ∧ (W.length < cap → S g ∧ W.length * 513 + r.length = cap * 513)
/-- a slice of blocks in memory -/
def BlocksAt (w : World) (g c : Nat) (B : List ByteArray) : Prop := ∃ r, RowV w g 67 (B.flatMap bv ++ r) ∧ B.length ≤ c ∧ c ≤ maxLen
/-- the program's disk at block p, told by its blocks' numbers -/
structure DiskIn (w : World) (S : Nat → Prop) (p gn gk cn ck : Nat) (la : Option Addr) (cap : Nat) (d : Dk.D) : Prop where
  ok : Dk.Ok d
  head : HeadAt w p gn gk cn ck la cap d
  now : BlocksAt w gn cn (Dk.over d.B d.W)
  kept : BlocksAt w gk ck d.B
  loose : LooseAt w S p gn gk la cap d.W
  pn : gn ≠ p
  pk : gk ≠ p
  nk : gk ≠ gn
  sp : S p
  sn : S gn
  sk : S gk
def DiskAt (w : World) (S : Nat → Prop) (p : Nat) (d : Dk.D) : Prop := ∃ gn gk cn ck la cap, DiskIn w S p gn gk cn ck la cap d

/-- a disk behind a call: its loose list lies where it lay, or in what is its own -/
def DiskNext (w : World) (S : Nat → Prop) (p : Nat) (d : Dk.D) (la : Option Addr) : Prop := ∃ gn gk cn ck la' cap, DiskIn w S p gn gk cn ck la' cap d ∧ (la' = none ∨ la' = la ∨ ∃ g, la' = some ⟨g, 0, none⟩ ∧ S g)
/-- a disk whose loose list, too, lies in L -/
def DiskAtL (w : World) (S L : Nat → Prop) (p : Nat) (d : Dk.D) : Prop := ∃ gn gk cn ck la cap, DiskIn w S p gn gk cn ck la cap d ∧ ∀ a, la = some a → L a.block
theorem looseAt_lt {w : World} {S : Nat → Prop} {p gn gk cap : Nat} {la : Option Addr} {W : List (Nat × ByteArray)} (h : LooseAt w S p gn gk la cap W) : ∀ a, la = some a → a.block < w.heap.size := by
  rintro a rfl
  rcases h with ⟨h1, _⟩ | ⟨g, r, h1, h2, _⟩
  · cases h1
  · cases h1; exact rowV_lt h2
/-- what happens elsewhere does not touch a disk -/
theorem looseAt_only {F S : Nat → Prop} {w w' : World} {p gn gk cap : Nat} {la : Option Addr} {W : List (Nat × ByteArray)} (h : LooseAt w S p gn gk la cap W) (ho : Only F w w') (hn : ∀ a, la = some a → ¬ F a.block) : LooseAt w' S p gn gk la cap W := by
  rcases h with h | ⟨g, r, h1, h2, h3⟩
  · exact .inl h
  · exact .inr ⟨g, r, h1, rowV_only h2 ho (hn _ h1), h3⟩
theorem looseAt_mono {S S' : Nat → Prop} {w : World} {p gn gk cap : Nat} {la : Option Addr} {W : List (Nat × ByteArray)} (h : LooseAt w S p gn gk la cap W) (hs : ∀ k, k < w.heap.size → S k → S' k) : LooseAt w S' p gn gk la cap W := by
  rcases h with h | ⟨g, r, h1, h2, h3, h4, h5, h6, h7, h8⟩
  · exact .inl h
  · exact .inr ⟨g, r, h1, h2, h3, h4, h5, h6, h7, fun hc => ⟨hs _ (rowV_lt h2) (h8 hc).1, (h8 hc).2⟩⟩
theorem blocksAt_only {F : Nat → Prop} {w w' : World} {g c : Nat} {B : List ByteArray} (h : BlocksAt w g c B) (ho : Only F w w') (hn : ¬ F g) : BlocksAt w' g c B := by
  obtain ⟨r, h1, h2⟩ := h
  exact ⟨r, rowV_only h1 ho hn, h2⟩
theorem diskIn_only {F S : Nat → Prop} {w w' : World} {p gn gk cn ck cap : Nat} {la : Option Addr} {d : Dk.D} (h : DiskIn w S p gn gk cn ck la cap d) (ho : Only F w w') (h1 : ¬ F p) (h2 : ¬ F gn) (h3 : ¬ F gk) (h4 : ∀ a, la = some a → ¬ F a.block) : DiskIn w' S p gn gk cn ck la cap d :=
  ⟨h.ok, rowV_only h.head ho h1, blocksAt_only h.now ho h2, blocksAt_only h.kept ho h3, looseAt_only h.loose ho h4, h.pn, h.pk, h.nk, h.sp, h.sn, h.sk⟩
theorem diskIn_below {S : Nat → Prop} {w w' : World} {p gn gk cn ck cap : Nat} {la : Option Addr} {d : Dk.D} (h : DiskIn w S p gn gk cn ck la cap d) (hb : Below w.heap.size w w') : DiskIn w' S p gn gk cn ck la cap d := by
  obtain ⟨r1, h1, _⟩ := h.now
  obtain ⟨r2, h2, _⟩ := h.kept
  have l0 := rowV_lt h.head
  have l1 := rowV_lt h1
  have l2 := rowV_lt h2
  exact diskIn_only h (Only.of_below hb) (by omega) (by omega) (by omega) fun a ha => by have := looseAt_lt h.loose a ha; omega
theorem diskIn_mono {S S' : Nat → Prop} {w : World} {p gn gk cn ck cap : Nat} {la : Option Addr} {d : Dk.D} (h : DiskIn w S p gn gk cn ck la cap d) (hs : ∀ k, k < w.heap.size → S k → S' k) : DiskIn w S' p gn gk cn ck la cap d := by
  obtain ⟨r1, h1, _⟩ := h.now
  obtain ⟨r2, h2, _⟩ := h.kept
  exact ⟨h.ok, h.head, h.now, h.kept, looseAt_mono h.loose hs, h.pn, h.pk, h.nk, hs _ (rowV_lt h.head) h.sp, hs _ (rowV_lt h1) h.sn, hs _ (rowV_lt h2) h.sk⟩

section
variable {w : World} {p gn gk cn ck cap : Nat} {la : Option Addr} {d : Dk.D}
theorem head_now (h : HeadAt w p gn gk cn ck la cap d) : w.cell? ⟨p, 0, none⟩ = some (.slice (some ⟨gn, 0, none⟩) d.B.length cn) := rowV_cell h 0
theorem head_kept (h : HeadAt w p gn gk cn ck la cap d) : w.cell? ⟨p, 1, none⟩ = some (.slice (some ⟨gk, 0, none⟩) d.B.length ck) := rowV_cell h 1
theorem head_loose (h : HeadAt w p gn gk cn ck la cap d) : w.cell? ⟨p, 2, none⟩ = some (.slice la d.W.length cap) := rowV_cell h 2
theorem head_left (h : HeadAt w p gn gk cn ck la cap d) : w.cell? ⟨p, 3, none⟩ = some (.int .i64 d.fuse) := rowV_cell h 3
theorem head_gone (h : HeadAt w p gn gk cn ck la cap d) : w.cell? ⟨p, 4, none⟩ = some (.bool d.gone) := rowV_cell h 4

set_option maxRecDepth 100000 in
theorem none_any (h : HeadAt w p gn gk cn ck la cap d) (hd : Dk.Ok d) : Calls Try.prog 28 #[.pointer (some ⟨p, 0, none⟩)] w fun e w' => e = .returned (.bool false) ∧ w' = w := by
  have c0 := head_now h
  have h0 : ((d.B.length : Int) == 0) = false := by rw [beq_eq_false_iff_ne]; have := hd.pos; omega
  have HH := Lib.hid h; clear h
  go_enter Try.func28, Try.ntmps28
  go_wp2_with fail
  go_ret
  exact ⟨rfl, rfl⟩
set_option maxRecDepth 100000 in
theorem asked_any (h : HeadAt w p gn gk cn ck la cap d) (hd : Dk.Ok d) : Calls Try.prog 29 #[.pointer (some ⟨p, 0, none⟩)] w fun e w' => e = .returned (.int .i64 (if d.gone then 7 else 0)) ∧ w' = w := by
  have c4 := head_gone h
  have cn := none_any h hd
  have HH := Lib.hid (And.intro h cn); clear h cn
  cases hg : d.gone with
  | true =>
    rw [hg] at c4
    go_enter Try.func29, Try.ntmps29
    go_wp2_with fail
    refine HH.out.2.mono ?_
    rintro e _ ⟨rfl, rfl⟩
    go_wp2_with fail
    go_ret
    exact ⟨rfl, rfl⟩
  | false =>
    rw [hg] at c4
    go_enter Try.func29, Try.ntmps29
    go_wp2_with fail
    refine HH.out.2.mono ?_
    rintro e _ ⟨rfl, rfl⟩
    go_wp2_with fail
    go_ret
    exact ⟨rfl, rfl⟩
set_option maxRecDepth 100000 in
theorem has_any (h : HeadAt w p gn gk cn ck la cap d) (i : Int) : Calls Try.prog 30 #[.pointer (some ⟨p, 0, none⟩), .int .i64 i] w fun e w' => e = .returned (.bool (decide (0 ≤ i ∧ i < d.B.length))) ∧ w' = w := by
  have c0 := head_now h
  have HH := Lib.hid h; clear h
  by_cases h1 : 0 ≤ i
  · by_cases h2 : i < d.B.length
    · go_enter Try.func30, Try.ntmps30
      go_wp2_with fail
      go_ret
      exact ⟨ret_bool (by simp [h1, h2]), rfl⟩
    · go_enter Try.func30, Try.ntmps30
      go_wp2_with fail
      go_ret
      exact ⟨ret_bool (by simp [h2]), rfl⟩
  · go_enter Try.func30, Try.ntmps30
    go_wp2_with fail
    go_ret
    exact ⟨ret_bool (by simp; omega), rfl⟩
set_option maxRecDepth 100000 in
theorem spend_any (h : HeadAt w p gn gk cn ck la cap d) (hd : Dk.Ok d) : Calls Try.prog 31 #[.pointer (some ⟨p, 0, none⟩)] w fun e w' => e = .returned (.int .i64 (Dk.spendE d)) ∧ HeadAt w' p gn gk cn ck la cap (Dk.spent d) ∧ Only (fun k => k = p) w w' := by
  have c3 := head_left h
  have f3 := rowV_frozen h 3
  have c4 := head_gone h
  have f4 := rowV_frozen h 4
  have hh := hd.high
  by_cases h0 : d.fuse = 0
  · have hst := rowV_stored h 4 (.bool true)
    have ho := (Only.refl (fun k => k = p) w).setCell (g := p) (i := 4) (fun _ => rfl) (.bool true)
    have e1 : Dk.spent d = { d with gone := true } := by unfold Dk.spent; rw [if_pos h0]
    have e2 : Dk.spendE d = 7 := by unfold Dk.spendE; rw [if_pos h0]
    rw [h0] at c3
    have HH := Lib.hid (And.intro hst (And.intro ho (And.intro e1 (And.intro e2 h0)))); clear h hst ho e1 e2 h0 hd hh
    go_enter Try.func31, Try.ntmps31
    go_wp2_with fail
    go_ret
    exact ⟨by rw [HH.out.2.2.2.1]; rfl, by rw [HH.out.2.2.1]; exact HH.out.1, HH.out.2.1⟩
  · have t0 : (d.fuse == 0) = false := by rw [beq_eq_false_iff_ne]; exact h0
    have e2 : Dk.spendE d = 0 := by unfold Dk.spendE; rw [if_neg h0]
    by_cases h1 : 0 < d.fuse
    · have hst := rowV_stored h 3 (.int .i64 (d.fuse - 1))
      have ho := (Only.refl (fun k => k = p) w).setCell (g := p) (i := 3) (fun _ => rfl) (.int .i64 (d.fuse - 1))
      have e1 : Dk.spent d = { d with fuse := d.fuse - 1 } := by unfold Dk.spent Dk.burn; rw [if_neg h0, if_pos h1]
      have HH := Lib.hid (And.intro hst (And.intro ho (And.intro e1 (And.intro e2 h0)))); clear h hst ho e1 e2 h0 hd
      go_enter Try.func31, Try.ntmps31
      go_wp2_with fail
      go_ret
      exact ⟨by rw [HH.out.2.2.2.1]; rfl, by rw [HH.out.2.2.1]; exact HH.out.1, HH.out.2.1⟩
    · have e1 : Dk.spent d = { d with fuse := d.fuse } := by unfold Dk.spent Dk.burn; rw [if_neg h0, if_neg h1]
      have HH := Lib.hid (And.intro h (And.intro e1 (And.intro e2 h0))); clear h e1 e2 h0 hd
      go_enter Try.func31, Try.ntmps31
      go_wp2_with fail
      go_ret
      exact ⟨by rw [HH.out.2.2.1]; rfl, by rw [HH.out.2.1]; exact HH.out.1, Only.refl _ _⟩
set_option maxRecDepth 100000 in
theorem len_any (h : HeadAt w p gn gk cn ck la cap d) (hd : Dk.Ok d) : Calls Try.prog 20 #[.pointer (some ⟨p, 0, none⟩)] w fun e w' => e = .returned (.int .i64 (d.B.length : Int)) ∧ w' = w := by
  have c0 := head_now h
  have cn := none_any h hd
  have HH := Lib.hid (And.intro h cn); clear h cn
  go_enter Try.func20, Try.ntmps20
  go_wp2_with fail
  refine HH.out.2.mono ?_
  rintro e _ ⟨rfl, rfl⟩
  go_wp2_with fail
  go_ret
  exact ⟨rfl, rfl⟩
set_option maxRecDepth 100000 in
theorem loose_any (h : HeadAt w p gn gk cn ck la cap d) (hd : Dk.Ok d) : Calls Try.prog 11 #[.pointer (some ⟨p, 0, none⟩)] w fun e w' => e = .returned (.int .i64 (d.W.length : Int)) ∧ w' = w := by
  have c0 := head_loose h
  have cn := none_any h hd
  have HH := Lib.hid (And.intro h cn); clear h cn
  go_enter Try.func11, Try.ntmps11
  go_wp2_with fail
  refine HH.out.2.mono ?_
  rintro e _ ⟨rfl, rfl⟩
  go_wp2_with fail
  go_ret
  exact ⟨rfl, rfl⟩
set_option maxRecDepth 100000 in
theorem arm_any (h : HeadAt w p gn gk cn ck la cap d) (hd : Dk.Ok d) (n : Int) : Calls Try.prog 21 #[.pointer (some ⟨p, 0, none⟩), .int .i64 n] w fun e w' => e = .returned (.int .i64 (Dk.armE d)) ∧ HeadAt w' p gn gk cn ck la cap (Dk.arm d n) ∧ Only (fun k => k = p) w w' := by
  have c3 := head_left h
  have f3 := rowV_frozen h 3
  have ca := asked_any h hd
  have hst := rowV_stored h 3 (.int .i64 n)
  have ho := (Only.refl (fun k => k = p) w).setCell (g := p) (i := 3) (fun _ => rfl) (.int .i64 n)
  have HH := Lib.hid (And.intro h (And.intro ca (And.intro hst ho))); clear h ca hst ho hd
  cases hg : d.gone with
  | true =>
    have e1 : Dk.arm d n = d := by unfold Dk.arm; rw [if_pos hg]
    have e2 : Dk.armE d = 7 := by unfold Dk.armE; rw [if_pos hg]
    have ca := HH.out.2.1
    rw [hg] at ca
    have HE := Lib.hid (And.intro e1 (And.intro e2 ca)); clear e1 e2 ca hg
    go_enter Try.func21, Try.ntmps21
    go_wp2_with fail
    refine HE.out.2.2.mono ?_
    rintro e _ ⟨rfl, rfl⟩
    go_wp2_with fail
    go_ret
    exact ⟨by rw [HE.out.2.1]; rfl, by rw [HE.out.1]; exact HH.out.1, Only.refl _ _⟩
  | false =>
    have e1 : Dk.arm d n = { d with fuse := n } := by unfold Dk.arm; rw [if_neg (by rw [hg]; simp)]
    have e2 : Dk.armE d = 0 := by unfold Dk.armE; rw [if_neg (by rw [hg]; simp)]
    have ca := HH.out.2.1
    rw [hg] at ca
    have HE := Lib.hid (And.intro e1 (And.intro e2 ca)); clear e1 e2 ca hg
    go_enter Try.func21, Try.ntmps21
    go_wp2_with fail
    refine HE.out.2.2.mono ?_
    rintro e _ ⟨rfl, rfl⟩
    go_wp2_with fail
    go_ret
    exact ⟨by rw [HE.out.2.1]; rfl, by rw [HE.out.1]; exact HH.out.2.2.1, HH.out.2.2.2⟩
end
end Go.Proofs.Ytjefmmbkkdaeiaa
