/-
  Layer 7: a log in memory (the program's and the document's lie alike); a disk below it, alone or beside another; the small calls.
-/
import Derived.Test.YtednmncapfclfaaPk2
import Derived.Test.YtednmncapfclfaaZWalRun
import Derived.Test.YtednmncapfclfaaPk4
namespace Go.Proofs.Ytednmncapfclfaa
open Go.RowKit
/-- a disk's calls, whatever stands beside it -/
structure DskP (p : Nat) (D : World → (Nat → Prop) → Dk.D → Prop) : Prop where
  ok : ∀ {w X d}, D w X d → Dk.Ok d
  lt : ∀ {w X d}, D w X d → ∀ k, X k → k < w.heap.size
  read : ∀ {w X d}, D w X d → ∀ i, Calls Try.prog 24 #[.pointer (some ⟨p, 0, none⟩), .int .i64 i] w fun en w' => en = .returned (.tuple #[.string (Dk.readS d i), .int .i64 (Dk.readE d i)]) ∧ w' = w
  len : ∀ {w X d}, D w X d → Calls Try.prog 54 #[.pointer (some ⟨p, 0, none⟩)] w fun en w' => en = .returned (.int .i64 (d.B.length : Int)) ∧ w' = w
  write : ∀ {w X d}, D w X d → ∀ i s, d.W.length ≤ 1000000 → Calls Try.prog 31 #[.pointer (some ⟨p, 0, none⟩), .int .i64 i, .string s] w fun en w' => en = .returned (.int .i64 (Dk.writeE d i s)) ∧ D w' X (Dk.write d i s) ∧ Only (fun k => ¬ X k) w w'
  less : ∀ {w X Y d}, D w X d → (∀ k, Y k → X k) → D w Y d
  grow : ∀ {w w' X d}, D w X d → Only X w w' → D w' (fun k => X k ∨ (w.heap.size ≤ k ∧ k < w'.heap.size)) d
section
variable {w w' : World} {X : Nat → Prop} {p q : Nat} {d e : Dk.D} {D : World → (Nat → Prop) → Dk.D → Prop}
theorem DskP.at_ (K : DskP p D) (h : D w X d) {F : Nat → Prop} (ho : Only F w w') (hF : ∀ k, F k → X k) : D w' X d := K.less (K.grow h (ho.mono fun k _ hk => hF k hk)) fun _ h => .inl h
theorem DskP.below (K : DskP p D) (h : D w X d) (hb : Below w.heap.size w w') : D w' X d := K.at_ h (Only.of_none (F := fun _ => False) hb) fun _ h => h.elim
theorem dskP_one (p : Nat) : DskP p (fun w X d => One w X p d) :=
  ⟨fun ⟨_, h, _⟩ => diskAtL_ok h, fun ⟨_, _, _, h⟩ => h, fun h => one_get h, fun h => one_len h, fun h => one_put h, fun h => one_less h, fun h => one_grow h⟩
/-- a step that turns blocks of X alone, and what it makes -/
theorem two_grow (h : Two w X p q d e) (ho : Only X w w') : Two w' (fun k => X k ∨ (w.heap.size ≤ k ∧ k < w'.heap.size)) p q d e := by
  obtain ⟨Sd, Sr, h1, h2, h3, h4, h5, h6⟩ := h
  refine ⟨Sd, Sr, diskAtL_only h1 ho (fun k hk hf => (h4 k hk).1 hf) (fun k hk hf => (h4 k hk).1 hf), refAt_only h2 ho (fun k _ hk hf => (h5 k hk).1 hf), h3,
    fun k hk => ⟨fun hx => hx.elim (h4 k hk).1 fun e => ?_, Nat.lt_of_lt_of_le (h4 k hk).2 ho.size⟩, fun k hk => ⟨fun hx => hx.elim (h5 k hk).1 fun e => ?_, Nat.lt_of_lt_of_le (h5 k hk).2 ho.size⟩, fun k hk => hk.elim (fun hx => Nat.lt_of_lt_of_le (h6 k hx) ho.size) fun e => e.2⟩
  · have := (h4 k hk).2; omega
  · have := (h5 k hk).2; omega
theorem dskP_two (p q : Nat) (e : Dk.D) : DskP p (fun w X d => Two w X p q d e) :=
  ⟨fun ⟨_, _, h, _⟩ => diskAtL_ok h, fun ⟨_, _, _, _, _, _, _, h⟩ => h, fun h => two_read h, fun h => two_len h, fun h => two_write h, fun h => two_less h, fun h => two_grow h⟩
theorem two_at (h : Two w X p q d e) {F : Nat → Prop} (ho : Only F w w') (hF : ∀ k, F k → X k) : Two w' X p q d e := (dskP_two p q e).at_ h ho hF
end
/-- a log's own cells -/
abbrev lgC (p : Nat) (g : Wl.Lg) (la : Option Addr) (cap : Nat) : List Value := [.pointer (some ⟨p, 0, none⟩), .int .i64 (g.fr : Int), .int .i64 (g.n : Int), .int .i64 (g.tail : Int), .int .i64 (g.head : Int), .slice la g.L.length cap]
def LgHead (T : Nat) (w : World) (l p : Nat) (g : Wl.Lg) (la : Option Addr) (cap : Nat) : Prop := RowV w l T (lgC p g la cap)
/-- a log (of the program's type, or the document's) at block l, over a disk at p -/
def LogAt (T : Nat) (w : World) (S : Nat → Prop) (l p : Nat) (g : Wl.Lg) : Prop := ∃ la cap, LgHead T w l p g la cap ∧ RecAt w S (fun x => x = l) la cap g.L ∧ S l
section
variable {T : Nat} {w w' : World} {S S' : Nat → Prop} {l p : Nat} {g : Wl.Lg} {la : Option Addr} {cap : Nat}
theorem logAt_only {F : Nat → Prop} (h : LogAt T w S l p g) (ho : Only F w w') (hn : ∀ k, k < w.heap.size → S k → ¬ F k) : LogAt T w' S l p g := by
  obtain ⟨la, cap, h1, h2, h3⟩ := h
  exact ⟨la, cap, rowV_only h1 ho (hn _ (rowV_lt h1) h3), recAt_only h2 ho hn, h3⟩
theorem logAt_below (h : LogAt T w S l p g) (hb : Below w.heap.size w w') : LogAt T w' S l p g := logAt_only h (Only.of_none (F := fun _ => False) hb) fun _ _ _ h => h
theorem logAt_mono (h : LogAt T w S l p g) (hs : ∀ k, k < w.heap.size → S k → S' k) : LogAt T w S' l p g := by
  obtain ⟨la, cap, h1, h2, h3⟩ := h
  exact ⟨la, cap, h1, recAt_mono h2 hs fun _ _ h => h, hs _ (rowV_lt h1) h3⟩
theorem logAt_lt (h : LogAt T w S l p g) : l < w.heap.size ∧ S l := by
  obtain ⟨la, cap, h1, h2, h3⟩ := h
  exact ⟨rowV_lt h1, h3⟩
theorem lg_0 (h : LgHead T w l p g la cap) : w.cell? ⟨l, 0, none⟩ = some (.pointer (some ⟨p, 0, none⟩)) := rowV_cell h 0
theorem lg_1 (h : LgHead T w l p g la cap) : w.cell? ⟨l, 1, none⟩ = some (.int .i64 (g.fr : Int)) := rowV_cell h 1
theorem lg_2 (h : LgHead T w l p g la cap) : w.cell? ⟨l, 2, none⟩ = some (.int .i64 (g.n : Int)) := rowV_cell h 2
theorem lg_3 (h : LgHead T w l p g la cap) : w.cell? ⟨l, 3, none⟩ = some (.int .i64 (g.tail : Int)) := rowV_cell h 3
theorem lg_4 (h : LgHead T w l p g la cap) : w.cell? ⟨l, 4, none⟩ = some (.int .i64 (g.head : Int)) := rowV_cell h 4
theorem lg_5 (h : LgHead T w l p g la cap) : w.cell? ⟨l, 5, none⟩ = some (.slice la g.L.length cap) := rowV_cell h 5
/-! ### no log -/
def NoneIs (w : World) (v : Value) : Prop := ∀ w', Below w.heap.size w w' → Calls Try.prog 34 #[v] w' fun e w'' => e = .returned (.bool true) ∧ w'' = w'
theorem noneIs_below {v : Value} (h : NoneIs w v) (hb : Below w.heap.size w w') : NoneIs w' v := fun w'' hb' => h w'' (hb.trans (hb'.mono hb.size))
set_option maxRecDepth 100000 in
theorem noneIs_nil (w : World) : NoneIs w (.pointer none) := by
  intro w' _
  go_enter Try.func34, Try.ntmps34
  go_wp2_with fail
  go_ret
  exact ⟨rfl, rfl⟩
set_option maxRecDepth 100000 in
theorem noneIs_zero (h : RowV w l 63 [.pointer none, .int .i64 0, .int .i64 0, .int .i64 0, .int .i64 0, .slice none 0 0]) : NoneIs w (.pointer (some ⟨l, 0, none⟩)) := by
  intro w' hb
  have c0 := rowV_cell (rowV_below h hb (rowV_lt h)) 0
  simp only [List.getElem?_cons_zero] at c0
  clear h hb
  go_enter Try.func34, Try.ntmps34
  go_wp2_with fail
  go_ret
  exact ⟨rfl, rfl⟩
set_option maxRecDepth 100000 in
theorem wnone_any (h : LgHead T w l p g la cap) : Calls Try.prog 34 #[.pointer (some ⟨l, 0, none⟩)] w fun e w' => e = .returned (.bool false) ∧ w' = w := by
  have c0 := lg_0 h
  clear h
  go_enter Try.func34, Try.ntmps34
  go_wp2_with fail
  go_ret
  exact ⟨rfl, rfl⟩
/-! ### places -/
set_option maxRecDepth 100000 in
theorem wnumber_any (n : Nat) (hn : n ≤ 1125900000000000) (w : World) : Calls Try.prog 57 #[.int .i64 (n : Int)] w fun e w' => e = .returned (.int .i64 ((n : Int) + 1)) ∧ w' = w := by
  go_enter Try.func57, Try.ntmps57
  go_wp2_with fail
  go_ret
  exact ⟨rfl, rfl⟩
set_option maxRecDepth 100000 in
theorem wcount_any (a b : Nat) (ha : a ≤ b) (hb : b ≤ 1125900000000000) (w : World) : Calls Try.prog 35 #[.agg #[.int .i64 (a : Int), .int .i64 (b : Int)]] w fun e w' => e = .returned (.int .i64 ((b - a : Nat) : Int)) ∧ Below w.heap.size w w' := by
  have hB : Below w.heap.size w (w.alloc (.cells #[.int .i64 (a : Int), .int .i64 (b : Int)] 61)) := (Below.refl w.heap.size w).alloc (Nat.le_refl _) _
  have H := Lib.hid hB
  clear hB
  go_enter Try.func35, Try.ntmps35
  go_wp2_with fail
  go_ret
  exact ⟨ret_int (by omega), H.out⟩
end
end Go.Proofs.Ytednmncapfclfaa
