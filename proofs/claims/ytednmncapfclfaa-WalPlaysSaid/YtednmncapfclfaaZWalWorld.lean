/-
  Layer 7's laws: WalPlays: both disks and both logs; a log opened of both.
-/
import Derived.Test.YtednmncapfclfaaZWalRopen
import Derived.Test.YtednmncapfclfaaZWalFoundX
namespace Go.Proofs.Ytednmncapfclfaa
open Go.RowKit
/-- the law's world: both disks, both logs (or none), the ring -/
abbrev wC (p q : Nat) (vl vx : Value) (fr n : Int) : List Value := [.pointer (some ⟨p, 0, none⟩), .pointer (some ⟨q, 0, none⟩), vl, vx, .int .i64 fr, .int .i64 n]
def WRow (w : World) (wp p q : Nat) (vl vx : Value) (fr n : Int) : Prop := RowV w wp 36 (wC p q vl vx fr n)
/-- both logs, beside each other -/
def Quad (w : World) (Y : Nat → Prop) (l x p q : Nat) (d : Dk.D) (g : Wl.Lg) : Prop := Pair 45 (Both l p q d g) w Y x q d g
def Wopt (w : World) (Y : Nat → Prop) (wp p q : Nat) (fr n : Int) (d : Dk.D) : Option Wl.Lg → Prop
  | some g => ∃ l x, WRow w wp p q (.pointer (some ⟨l, 0, none⟩)) (.pointer (some ⟨x, 0, none⟩)) fr n ∧ Quad w Y l x p q d g
  | none => WRow w wp p q (.pointer none) (.pointer none) fr n ∧ Two w Y p q d d
def openO (d : Dk.D) (fr n t h : Int) (o : Option Wl.Lg) : Option Wl.Lg := if Wl.openE d fr n t h = 0 then some (Wl.openG d fr n t h) else o
section
variable {w w' : World} {Y Z : Nat → Prop} {wp p q l x : Nat} {fr n : Int} {d : Dk.D} {g : Wl.Lg} {o : Option Wl.Lg}
theorem both_apart (l p q : Nat) (d : Dk.D) (g : Wl.Lg) : Apart (Both l p q d g) := (dskR_both l p q d g).apart
theorem quad_two (h : Quad w Y l x p q d g) : ∃ Z : Nat → Prop, Two w Z p q d d ∧ ∀ k, Y k → Z k := by
  obtain ⟨X, hx, h1⟩ := pair_base h
  obtain ⟨Z, hz, h2⟩ := pair_base hx
  exact ⟨Z, hz, fun k hk => h2 k (h1 k hk)⟩
theorem quad_below (h : Quad w Y l x p q d g) (hb : Below w.heap.size w w') : Quad w' Y l x p q d g := pair_below (both_apart l p q d g) h hb
theorem quad_at (h : Quad w Y l x p q d g) {F : Nat → Prop} (ho : Only F w w') (hF : ∀ k, F k → Y k) : Quad w' Y l x p q d g := pair_at (both_apart l p q d g) h ho hF
theorem wopt_two (h : Wopt w Y wp p q fr n d o) : (∃ Z : Nat → Prop, Two w Z p q d d ∧ ∀ k, Y k → Z k) ∧ ∃ vl vx, WRow w wp p q vl vx fr n := by
  cases o with
  | none => exact ⟨⟨Y, h.2, fun _ h => h⟩, _, _, h.1⟩
  | some g =>
    obtain ⟨l, x, h1, h2⟩ := h
    exact ⟨quad_two h2, _, _, h1⟩
theorem wopt_below (h : Wopt w Y wp p q fr n d o) (hb : Below w.heap.size w w') : Wopt w' Y wp p q fr n d o := by
  cases o with
  | none => exact ⟨rowV_below h.1 hb (rowV_lt h.1), two_below h.2 hb⟩
  | some g =>
    obtain ⟨l, x, h1, h2⟩ := h
    exact ⟨l, x, rowV_below h1 hb (rowV_lt h1), quad_below h2 hb⟩
theorem wopt_less (h : Wopt w Y wp p q fr n d o) (hZ : ∀ k, Z k → Y k) : Wopt w Z wp p q fr n d o := by
  cases o with
  | none => exact ⟨h.1, two_less h.2 hZ⟩
  | some g =>
    obtain ⟨l, x, h1, h2⟩ := h
    exact ⟨l, x, h1, pair_less h2 hZ⟩
/-- a block more that they leave alone -/
theorem wopt_more (h : Wopt w Y wp p q fr n d o) (hb : Below w.heap.size w w') : Wopt w' (fun k => Y k ∨ (w.heap.size ≤ k ∧ k < w'.heap.size)) wp p q fr n d o := by
  cases o with
  | none => exact ⟨rowV_below h.1 hb (rowV_lt h.1), two_grow h.2 (Only.of_none hb)⟩
  | some g =>
    obtain ⟨l, x, h1, h2⟩ := h
    exact ⟨l, x, rowV_below h1 hb (rowV_lt h1), pair_grow (both_apart l p q d g) h2 (Only.of_none hb)⟩
/-- two new logs -/
theorem quad_open {w1 w2 : World} (h : Two w Z p q d d) (hl : LogAt 63 w1 (fun k => w.heap.size ≤ k) l p g) (hb1 : Below w.heap.size w w1) (hx : LogAt 45 w2 (fun k => w1.heap.size ≤ k) x q g) (hb2 : Below w1.heap.size w1 w2) : Quad w2 Z l x p q d g :=
  pair_open (both_apart l p q d g) (pair_open (dskP_two p q d).apart h hl hb1) hx hb2
set_option maxRecDepth 100000 in
set_option maxHeartbeats 4000000 in
theorem wworld_err (h2 : Two w Z p q d d) {vl vx : Value} (hrow : WRow w wp p q vl vx fr n) (hn : n ≤ 9223372036854775807) (t h : Int) (hE : Wl.openE d fr n t h ≠ 0) :
    Calls Try.prog 11 #[.pointer (some ⟨wp, 0, none⟩), .int .i64 t, .int .i64 h] w fun e w' => e = .returned (.bool true) ∧ Below w.heap.size w w' := by
  have hO : ∀ wx, Hid (Below w.heap.size w wx) → Calls Try.prog 19 #[.pointer (some ⟨p, 0, none⟩), .int .i64 fr, .int .i64 n, .int .i64 t, .int .i64 h] wx fun e w' => e = .returned (.tuple #[.pointer none, .int .i64 (Wl.openE d fr n t h)]) ∧ Below w.heap.size w w' := fun wx hb =>
    (wopen_any (dskP_two p q d) (two_below h2 hb.out) fr n t h hn).mono fun e w' hP => by
      rcases hP with ⟨_, e1, e2⟩ | ⟨e0, _⟩
      · exact ⟨e1, below_two hb.out e2⟩
      · exact absurd e0 hE
  have hR : ∀ wx, Hid (Below w.heap.size w wx) → Calls Try.prog 25 #[.pointer (some ⟨q, 0, none⟩), .int .i64 fr, .int .i64 n, .int .i64 t, .int .i64 h] wx fun e w' => e = .returned (.tuple #[.pointer none, .int .i64 (Wl.openE d fr n t h)]) ∧ Below w.heap.size w w' := fun wx hb =>
    (ropen_any (dskR_two p q d) (two_below h2 hb.out) fr n t h).mono fun e w' hP => by
      rcases hP with ⟨_, e1, e2⟩ | ⟨e0, _⟩
      · exact ⟨e1, below_two hb.out e2⟩
      · exact absurd e0 hE
  have hC : ∀ wx, Below w.heap.size w wx → (wx.cell? ⟨wp, 0, none⟩ = some (.pointer (some ⟨p, 0, none⟩)) ∧ wx.cell? ⟨wp, 1, none⟩ = some (.pointer (some ⟨q, 0, none⟩)) ∧ wx.cell? ⟨wp, 4, none⟩ = some (.int .i64 fr) ∧ wx.cell? ⟨wp, 5, none⟩ = some (.int .i64 n) ∧ Hid (Below w.heap.size w wx)) := fun wx hb =>
    have hr := rowV_below hrow hb (rowV_lt hrow)
    ⟨rowV_cell hr 0, rowV_cell hr 1, rowV_cell hr 4, rowV_cell hr 5, Lib.hid hb⟩
  generalize Wl.openE d fr n t h = E at *
  have H := Lib.hid (And.intro hO (And.intro hR hC))
  clear hO hR hC h2 hrow hn
  obtain ⟨d0, d1, d4, d5, dB⟩ := H.out.2.2 w.drew (Below.refl _ _).drew
  have q1 : (E != E) = false := by simp
  go_enter Try.func11, Try.ntmps11
  go_wp2_with fail
  go_region_held3 (fun wx => wx.cell? ⟨wp, 0, none⟩ = some (.pointer (some ⟨p, 0, none⟩)) ∧ wx.cell? ⟨wp, 1, none⟩ = some (.pointer (some ⟨q, 0, none⟩)) ∧ wx.cell? ⟨wp, 4, none⟩ = some (.int .i64 fr) ∧ wx.cell? ⟨wp, 5, none⟩ = some (.int .i64 n) ∧ Hid (Below w.heap.size w wx))
    (first
      | exact ⟨d0, d1, d4, d5, dB⟩
      | exact H.out.2.2 _ hb1)
    ((go_at_call 19; refine (H.out.1 _ (by assumption)).mono ?_; rintro e w1 ⟨rfl, hb1⟩))
  obtain ⟨e0, e1, e4, e5, eB⟩ := H.out.2.2 w1.drew hb1.drew
  clear d0 d1 d4 d5 dB hb1
  go_wp2_with fail
  go_region_held3 (fun wx => wx.cell? ⟨wp, 0, none⟩ = some (.pointer (some ⟨p, 0, none⟩)) ∧ wx.cell? ⟨wp, 1, none⟩ = some (.pointer (some ⟨q, 0, none⟩)) ∧ wx.cell? ⟨wp, 4, none⟩ = some (.int .i64 fr) ∧ wx.cell? ⟨wp, 5, none⟩ = some (.int .i64 n) ∧ Hid (Below w.heap.size w wx))
    (first
      | exact ⟨e0, e1, e4, e5, eB⟩
      | exact H.out.2.2 _ hb2)
    ((go_at_call 25; refine (H.out.2.1 _ (by assumption)).mono ?_; rintro e w2 ⟨rfl, hb2⟩))
  have H2 := Lib.hid hb2
  clear e0 e1 e4 e5 eB hb2
  go_wp2_with fail
  go_ret
  exact ⟨rfl, H2.out⟩
set_option maxRecDepth 100000 in
set_option maxHeartbeats 4000000 in
theorem wworld_ok (h2 : Two w Z p q d d) (hZ : Z wp) {vl vx : Value} (hrow : WRow w wp p q vl vx fr n) (hn : n ≤ 9223372036854775807) (t h : Int) (hE : Wl.openE d fr n t h = 0) :
    Calls Try.prog 11 #[.pointer (some ⟨wp, 0, none⟩), .int .i64 t, .int .i64 h] w fun e w' => e = .returned (.bool true) ∧ Wopt w' Z wp p q fr n d (some (Wl.openG d fr n t h)) ∧ Only (fun k => k = wp) w w' := by
  have hO : ∀ wx, Hid (Below w.heap.size w wx) → Calls Try.prog 19 #[.pointer (some ⟨p, 0, none⟩), .int .i64 fr, .int .i64 n, .int .i64 t, .int .i64 h] wx fun e w' => ∃ l, e = .returned (.tuple #[.pointer (some ⟨l, 0, none⟩), .int .i64 0]) ∧ LogAt 63 w' (fun k => wx.heap.size ≤ k) l p (Wl.openG d fr n t h) ∧ Below wx.heap.size wx w' := fun wx hb =>
    (wopen_any (dskP_two p q d) (two_below h2 hb.out) fr n t h hn).mono fun e w' hP => by
      rcases hP with ⟨e0, _⟩ | ⟨_, h⟩
      · exact absurd hE e0
      · exact h
  have hR : ∀ wx, Hid (Below w.heap.size w wx) → Calls Try.prog 25 #[.pointer (some ⟨q, 0, none⟩), .int .i64 fr, .int .i64 n, .int .i64 t, .int .i64 h] wx fun e w' => ∃ x, e = .returned (.tuple #[.pointer (some ⟨x, 0, none⟩), .int .i64 0]) ∧ LogAt 45 w' (fun k => wx.heap.size ≤ k) x q (Wl.openG d fr n t h) ∧ Below wx.heap.size wx w' := fun wx hb =>
    (ropen_any (dskR_two p q d) (two_below h2 hb.out) fr n t h).mono fun e w' hP => by
      rcases hP with ⟨e0, _⟩ | ⟨_, h⟩
      · exact absurd hE e0
      · exact h
  have hC : ∀ wx, Below w.heap.size w wx → (wx.cell? ⟨wp, 0, none⟩ = some (.pointer (some ⟨p, 0, none⟩)) ∧ wx.cell? ⟨wp, 1, none⟩ = some (.pointer (some ⟨q, 0, none⟩)) ∧ wx.cell? ⟨wp, 4, none⟩ = some (.int .i64 fr) ∧ wx.cell? ⟨wp, 5, none⟩ = some (.int .i64 n) ∧ Hid (Below w.heap.size w wx)) := fun wx hb =>
    have hr := rowV_below hrow hb (rowV_lt hrow)
    ⟨rowV_cell hr 0, rowV_cell hr 1, rowV_cell hr 4, rowV_cell hr 5, Lib.hid hb⟩
  generalize Wl.openG d fr n t h = G at *
  have H := Lib.hid (And.intro hO (And.intro hR (And.intro hC (And.intro h2 (And.intro hZ hrow)))))
  clear hO hR hC h2 hrow hn hE hZ
  obtain ⟨d0, d1, d4, d5, dB⟩ := H.out.2.2.1 w.drew (Below.refl _ _).drew
  go_enter Try.func11, Try.ntmps11
  go_wp2_with fail
  go_region_held3 (fun wx => wx.cell? ⟨wp, 0, none⟩ = some (.pointer (some ⟨p, 0, none⟩)) ∧ wx.cell? ⟨wp, 1, none⟩ = some (.pointer (some ⟨q, 0, none⟩)) ∧ wx.cell? ⟨wp, 4, none⟩ = some (.int .i64 fr) ∧ wx.cell? ⟨wp, 5, none⟩ = some (.int .i64 n) ∧ Hid (Below w.heap.size w wx))
    (first
      | exact ⟨d0, d1, d4, d5, dB⟩
      | exact H.out.2.2.1 _ ((Below.refl _ w).drew.trans hb1))
    ((go_at_call 19; refine (H.out.1 _ (by assumption)).mono ?_; rintro e w1 ⟨l, rfl, hl1, hb1⟩))
  have hB1 : Below w.heap.size w w1 := (Below.refl _ w).drew.trans hb1
  have H1 := Lib.hid (And.intro hl1 hB1)
  obtain ⟨e0, e1, e4, e5, eB⟩ := H.out.2.2.1 w1.drew hB1.drew
  clear d0 d1 d4 d5 dB hb1 hl1 hB1
  go_wp2_with fail
  go_region_held3 (fun wx => wx.cell? ⟨wp, 0, none⟩ = some (.pointer (some ⟨p, 0, none⟩)) ∧ wx.cell? ⟨wp, 1, none⟩ = some (.pointer (some ⟨q, 0, none⟩)) ∧ wx.cell? ⟨wp, 4, none⟩ = some (.int .i64 fr) ∧ wx.cell? ⟨wp, 5, none⟩ = some (.int .i64 n) ∧ Hid (Below w.heap.size w wx))
    (first
      | exact ⟨e0, e1, e4, e5, eB⟩
      | exact H.out.2.2.1 _ (below_two H1.out.2 ((Below.refl _ w1).drew.trans hb2)))
    ((go_at_call 25; refine (H.out.2.1 _ (by assumption)).mono ?_; rintro e w2 ⟨x, rfl, hl2, hb2⟩))
  have hB2 : Below w1.heap.size w1 w2 := (Below.refl _ w1).drew.trans hb2
  have hQ := quad_open H.out.2.2.2.1 H1.out.1 H1.out.2 hl2 hB2
  have hB := below_two H1.out.2 hB2
  have hr2 := rowV_below H.out.2.2.2.2.2 hB (rowV_lt H.out.2.2.2.2.2)
  have f2 := rowV_frozen hr2 2
  have f3 := rowV_frozen hr2 3
  have c2 := rowV_cell hr2 2
  have c3 := rowV_cell hr2 3
  simp only [List.getElem?_cons_zero, List.getElem?_cons_succ] at c2 c3
  have H2 := Lib.hid (And.intro hQ (And.intro hB hr2))
  clear e0 e1 e4 e5 eB hb2 hl2 hB2 hQ hB hr2
  go_wp2_with fail
  go_ret
  obtain ⟨hQ, hB, hr2⟩ := H2.out
  have hset : ∀ (u v : Value), Only (fun j => j = wp) w2 ((w2.setCell ⟨wp, 2, none⟩ u).setCell ⟨wp, 3, none⟩ v) := fun u v => ((Only.refl (fun j => j = wp) w2).setCell (fun _ => rfl) u).setCell (fun _ => rfl) v
  refine ⟨rfl, ⟨l, x, rowV_stored (rowV_stored hr2 2 _) 3 _, quad_at hQ (hset _ _) fun k e => e ▸ H.out.2.2.2.2.1⟩, (Only.of_none hB).more (hset _ _)⟩
/-- a log opened of both, or none -/
theorem wworld_open (h : Wopt w Y wp p q fr n d o) (hY : Y wp) (hn : n ≤ 9223372036854775807) (t hd : Int) :
    Calls Try.prog 11 #[.pointer (some ⟨wp, 0, none⟩), .int .i64 t, .int .i64 hd] w fun e w' => e = .returned (.bool true) ∧ Wopt w' Y wp p q fr n d (openO d fr n t hd o) ∧ Only (fun k => k = wp) w w' := by
  obtain ⟨⟨Z, hz, hYZ⟩, vl, vx, hrow⟩ := wopt_two h
  unfold openO
  by_cases hE : Wl.openE d fr n t hd = 0
  · rw [if_pos hE]
    exact (wworld_ok hz (hYZ _ hY) hrow hn t hd hE).mono fun e w' ⟨e1, e2, e3⟩ => ⟨e1, wopt_less e2 hYZ, e3⟩
  · rw [if_neg hE]
    exact (wworld_err hz hrow hn t hd hE).mono fun e w' ⟨e1, e2⟩ => ⟨e1, wopt_below h e2, Only.of_none e2⟩
end
end Go.Proofs.Ytednmncapfclfaa
