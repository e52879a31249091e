/-
  Layer 7's laws: WalPlays: a step of both, kind by kind.
-/
import Derived.Test.YtednmncapfclfaaZWalQuad
namespace Go.Proofs.Ytednmncapfclfaa
open Go.RowKit
/-- a call, as the law has it -/
structure WAct where
  kind : Int
  n : Int
  m : Int
  L : List ByteArray
  raw : ByteArray
  F : List Int
abbrev act7C (a : WAct) (xa : Option Addr) (xc : Nat) (fa : Option Addr) (fc : Nat) : Array Value := #[.int .i64 a.kind, .int .i64 a.n, .int .i64 a.m, .slice xa a.L.length xc, .string a.raw, .slice fa a.F.length fc]
/-- what a step leaves -/
def StepP (Y : Nat → Prop) (wp p q : Nat) (fr n : Int) (m k : Nat) (w : World) (e : Ending) (w' : World) : Prop :=
  e = .returned (.bool true) ∧ (∃ d' o', Wopt w' Y wp p q fr n d' o' ∧ Bnd m (k + 1) d' o') ∧ Only (fun j => j = wp ∨ ¬ Y j) w w'
theorem bool_self {a : Int} : (a == a) = true := by simp
section
variable {w : World} {Y : Nat → Prop} {wp p q m k : Nat} {fr n : Int} {d : Dk.D} {g : Wl.Lg}
/-- what is there behind the call's box -/
structure Base (w0 : World) (Y : Nat → Prop) (wp p q l x C : Nat) (fr n : Int) (d : Dk.D) (g : Wl.Lg) (a : WAct) (xa : Option Addr) (xc : Nat) (fa : Option Addr) (fc : Nat) (w wx : World) : Prop where
  below : Below w0.heap.size w0 wx
  row : WRow wx wp p q (.pointer (some ⟨l, 0, none⟩)) (.pointer (some ⟨x, 0, none⟩)) fr n
  box : RowV wx C 42 (act7C a xa xc fa fc).toList
  quad : Quad2 wx (fun j => Y j ∨ j = C) l x p q d d g g
  wpC : wp < wx.heap.size ∧ C < wx.heap.size ∧ wp ≠ C
  only : Only (fun j => j = wp ∨ ¬ Y j) w wx
theorem base_of (h : Wopt w Y wp p q fr n d (some g)) (a : WAct) (xa : Option Addr) (xc : Nat) (fa : Option Addr) (fc : Nat) :
    ∃ l x, Base (w.alloc (.cells (act7C a xa xc fa fc) 42)) Y wp p q l x w.heap.size fr n d g a xa xc fa fc w (w.alloc (.cells (act7C a xa xc fa fc) 42)) ∧
      (w.alloc (.cells (act7C a xa xc fa fc) 42)).cell? ⟨wp, 3, none⟩ = some (.pointer (some ⟨x, 0, none⟩)) ∧ (w.alloc (.cells (act7C a xa xc fa fc) 42)).cell? ⟨x, 3, none⟩ = some (.int .i64 (g.tail : Int)) ∧ (w.alloc (.cells (act7C a xa xc fa fc) 42)).cell? ⟨x, 4, none⟩ = some (.int .i64 (g.head : Int)) ∧ (w.alloc (.cells (act7C a xa xc fa fc) 42)).cell? ⟨w.heap.size, 0, none⟩ = some (.int .i64 a.kind) := by
  obtain ⟨l, x, h1, h2⟩ := h
  have hb : Below w.heap.size w (w.alloc (.cells (act7C a xa xc fa fc) 42)) := (Below.refl _ _).alloc (Nat.le_refl _) _
  have hr := rowV_below h1 hb (rowV_lt h1)
  have hn := rowV_new w 42 (act7C a xa xc fa fc).toList
  have hq := pair_grow (both_apart l p q d g) h2 (Only.of_none (F := Y) hb)
  have hlt : w.heap.size < (w.alloc (.cells (act7C a xa xc fa fc) 42)).heap.size := by simp
  obtain ⟨S, hlog⟩ := pair_log (pair_below (both_apart l p q d g) h2 hb)
  obtain ⟨la, cap, hx, _⟩ := hlog
  refine ⟨l, x, ⟨Below.refl _ _, hr, hn, pair_less hq fun j hj => hj.imp id fun e => by omega, ⟨rowV_lt hr, hlt, Nat.ne_of_lt (rowV_lt h1)⟩, Only.of_none hb⟩, rowV_cell hr 3, lg_3 hx, lg_4 hx, rowV_cell hn 0⟩
theorem base_below {w0 wx wy : World} {l x C : Nat} {a : WAct} {xa fa : Option Addr} {xc fc : Nat} (h : Base w0 Y wp p q l x C fr n d g a xa xc fa fc w wx) (hb : Below wx.heap.size wx wy) : Base w0 Y wp p q l x C fr n d g a xa xc fa fc w wy :=
  ⟨h.below.trans (hb.mono h.below.size), rowV_below h.row hb (rowV_lt h.row), rowV_below h.box hb (rowV_lt h.box), quad2_below h.quad hb, ⟨Nat.lt_of_lt_of_le h.wpC.1 hb.size, Nat.lt_of_lt_of_le h.wpC.2.1 hb.size, h.wpC.2.2⟩, h.only.more (Only.of_none hb)⟩
/-- what is named reads on -/
theorem stay {Z : Nat → Prop} {wx wy : World} {b o : Nat} {v : Value} (ho : Only (fun j => ¬ Z j) wx wy) (hb : b < wx.heap.size) (hZ : Z b) (hc : wx.cell? ⟨b, o, none⟩ = some v) : wy.cell? ⟨b, o, none⟩ = some v :=
  (ho.cell (p := ⟨b, o, none⟩) hb (fun hn => hn hZ)).trans hc
/-- how a step ends that opens -/
theorem step_open {w0 wx wy wz : World} {l x C : Nat} {a : WAct} {xa fa : Option Addr} {xc fc : Nat} {d' : Dk.D} {o' : Option Wl.Lg} (h : Base w0 Y wp p q l x C fr n d g a xa xc fa fc w wx) (ho : Only (fun j => j = wp ∨ ¬ (Y j ∨ j = C)) wx wy) (hw : Wopt wz (fun j => Y j ∨ j = C) wp p q fr n d' o') (hz : Only (fun j => j = wp) wy wz) (hb : Bnd m (k + 1) d' o') : (∃ d' o', Wopt wz Y wp p q fr n d' o' ∧ Bnd m (k + 1) d' o') ∧ Only (fun j => j = wp ∨ ¬ Y j) w wz :=
  ⟨⟨d', o', wopt_less hw fun _ hj => .inl hj, hb⟩, h.only.more ((ho.mono fun _ _ hj => hj.imp id fun h hy => h (.inl hy)).more (hz.mono fun _ _ e => .inl e))⟩
theorem wopt_row {w : World} {Y : Nat → Prop} {wp p q : Nat} {fr n : Int} {d : Dk.D} {o : Option Wl.Lg} (h : Wopt w Y wp p q fr n d o) : w.cell? ⟨wp, 0, none⟩ = some (.pointer (some ⟨p, 0, none⟩)) := by
  obtain ⟨_, vl, vx, hr⟩ := wopt_two h
  exact rowV_cell hr 0
/-- the logs are let go -/
theorem quad_drop {wx : World} {Z : Nat → Prop} {l x p q : Nat} {d : Dk.D} {g : Wl.Lg} (h : Quad2 wx Z l x p q d d g g) : Two wx Z p q d d := by
  obtain ⟨X, hx, hX⟩ := quad_two h
  exact two_less hx hX
/-- no logs, behind a crash -/
theorem none_of {w6 w8 : World} {wp p q l x C : Nat} {fr n : Int} {Y : Nat → Prop} {d : Dk.D} {g : Wl.Lg} (hr : WRow w6 wp p q (.pointer none) (.pointer none) fr n) (hq : Quad2 w8 (fun j => Y j ∨ j = C) l x p q d d g g) (ho : Only (fun j => ¬ (Y j ∨ j = C)) w6.drew w8) (hY : Y wp) : Wopt w8 (fun j => Y j ∨ j = C) wp p q fr n d none :=
  ⟨rowV_only hr ((Only.refl _ _).drew.more ho) fun hn => hn (.inl hY), quad_drop hq⟩
/-- how a step ends that leaves both logs -/
theorem step_end {w0 wx wy : World} {l x C : Nat} {a : WAct} {xa fa : Option Addr} {xc fc : Nat} {d' : Dk.D} {g' : Wl.Lg} (h : Base w0 Y wp p q l x C fr n d g a xa xc fa fc w wx) (hY : Y wp) (hq : Quad2 wy (fun j => Y j ∨ j = C) l x p q d' d' g' g') (ho : Only (fun j => ¬ (Y j ∨ j = C)) wx wy) (hb : Bnd m (k + 1) d' (some g')) : (∃ d' o', Wopt wy Y wp p q fr n d' o' ∧ Bnd m (k + 1) d' o') ∧ Only (fun j => j = wp ∨ ¬ Y j) w wy := by
  refine ⟨⟨d', some g', ⟨l, x, ?_, pair_less hq fun j hj => .inl hj⟩, hb⟩, h.only.more (ho.mono fun j _ hj => .inr fun hy => hj (.inl hy))⟩
  exact rowV_only h.row ho fun hn => hn (.inl hY)
set_option maxRecDepth 100000 in
set_option maxHeartbeats 4000000 in
theorem wstep_3a (h : Wopt w Y wp p q fr n d (some g)) (hY : Y wp) (hbd : Bnd m k d (some g)) (hk : k ≤ 25) (hn : n ≤ 9223372036854775807) (kind an am : Int) (lst : List ByteArray) (raw : ByteArray) (F : List Int) (xa fa : Option Addr) (xc fc : Nat) (hkind : kind = 3) (hr : an < -100 ∨ 100 < an) :
    Calls Try.prog 12 #[.pointer (some ⟨wp, 0, none⟩), .agg (act7C ⟨kind, an, am, lst, raw, F⟩ xa xc fa fc)] w (StepP Y wp p q fr n m k w) := by
  obtain ⟨l, x, hB, b3, x3, x4, a0⟩ := base_of h ⟨kind, an, am, lst, raw, F⟩ xa xc fa fc
  have qk : (kind == 3) = true := by rw [hkind]; rfl
  have H := Lib.hid (And.intro hB (And.intro hY hbd))
  have HX := Lib.hid (And.intro hr (And.intro hk hn))
  clear hB hY hbd h hk hn hkind hr
  go_enter Try.func12, Try.ntmps12
  go_wp2_with fail
  go_quiet (fail)
  generalize hwq : World.drewN _ _ = wq at *
  have HB := Lib.hid (show Base (w.alloc (.cells (act7C ⟨kind, an, am, lst, raw, F⟩ xa xc fa fc) 42)) Y wp p q l x w.heap.size fr n d g ⟨kind, an, am, lst, raw, F⟩ xa xc fa fc w wq by rw [← hwq]; exact base_below H.out.1 (below_drewN (Below.refl _ _) _))
  clear hwq b3 x3 x4 a0
  generalize w.heap.size = C at *
  have r0 : wq.cell? ⟨wp, 0, none⟩ = some (.pointer (some ⟨p, 0, none⟩)) := rowV_cell HB.out.row 0
  have r1 : wq.cell? ⟨wp, 1, none⟩ = some (.pointer (some ⟨q, 0, none⟩)) := rowV_cell HB.out.row 1
  have r2 : wq.cell? ⟨wp, 2, none⟩ = some (.pointer (some ⟨l, 0, none⟩)) := rowV_cell HB.out.row 2
  have r3 : wq.cell? ⟨wp, 3, none⟩ = some (.pointer (some ⟨x, 0, none⟩)) := rowV_cell HB.out.row 3
  have s0 : wq.cell? ⟨C, 0, none⟩ = some (.int .i64 kind) := rowV_cell HB.out.box 0
  have s1 : wq.cell? ⟨C, 1, none⟩ = some (.int .i64 an) := rowV_cell HB.out.box 1
  have s2 : wq.cell? ⟨C, 2, none⟩ = some (.int .i64 am) := rowV_cell HB.out.box 2
  have s3 : wq.cell? ⟨C, 3, none⟩ = some (.slice xa lst.length xc) := rowV_cell HB.out.box 3
  have s4 : wq.cell? ⟨C, 4, none⟩ = some (.string raw) := rowV_cell HB.out.box 4
  have s5 : wq.cell? ⟨C, 5, none⟩ = some (.slice fa F.length fc) := rowV_cell HB.out.box 5
  have HY := Lib.hid H.out.2.1
  by_cases hlo : an < -100
  · go_wp2_with fail
    go_ret
    obtain ⟨hE1, hE2⟩ := step_end HB.out HY.out HB.out.quad (Only.refl _ _) (bnd_more H.out.2.2)
    exact ⟨rfl, hE1, hE2⟩
  · have hhi : 100 < an := HX.out.1.resolve_left hlo
    go_wp2_with fail
    go_ret
    obtain ⟨hE1, hE2⟩ := step_end HB.out HY.out HB.out.quad (Only.refl _ _) (bnd_more H.out.2.2)
    exact ⟨rfl, hE1, hE2⟩
set_option maxRecDepth 100000 in
set_option maxHeartbeats 4000000 in
theorem wstep_3b (h : Wopt w Y wp p q fr n d (some g)) (hY : Y wp) (hbd : Bnd m k d (some g)) (hk : k ≤ 25) (hn : n ≤ 9223372036854775807) (kind an am : Int) (lst : List ByteArray) (raw : ByteArray) (F : List Int) (xa fa : Option Addr) (xc fc : Nat) (hkind : kind = 3) (hlo : ¬ an < -100) (hhi : ¬ 100 < an) :
    Calls Try.prog 12 #[.pointer (some ⟨wp, 0, none⟩), .agg (act7C ⟨kind, an, am, lst, raw, F⟩ xa xc fa fc)] w (StepP Y wp p q fr n m k w) := by
  obtain ⟨l, x, hB, b3, x3, x4, a0⟩ := base_of h ⟨kind, an, am, lst, raw, F⟩ xa xc fa fc
  have qk : (kind == 3) = true := by rw [hkind]; rfl
  obtain ⟨hgood, hhead⟩ := hbd.log g rfl
  have hends := hgood.ends
  obtain ⟨T, hT⟩ : ∃ T : Int, T = (g.tail : Int) + an := ⟨_, rfl⟩
  have hs : IntKind.i64.wrap ((g.tail : Int) + an) = T := by rw [IntWalk.i64_in _ (by omega), hT]
  have hh : g.head ≤ 1125900000000000 := by omega
  have H := Lib.hid (And.intro hB (And.intro hY hbd))
  have HX := Lib.hid (And.intro (And.intro hgood hh) (And.intro hk hn))
  clear hB hY hbd h hk hn hkind hgood hhead hends hT hh
  go_enter Try.func12, Try.ntmps12
  go_wp2_with fail
  go_quiet (fail)
  generalize hwq : World.drewN _ _ = wq at *
  have HB := Lib.hid (show Base (w.alloc (.cells (act7C ⟨kind, an, am, lst, raw, F⟩ xa xc fa fc) 42)) Y wp p q l x w.heap.size fr n d g ⟨kind, an, am, lst, raw, F⟩ xa xc fa fc w wq by rw [← hwq]; exact base_below H.out.1 (below_drewN (Below.refl _ _) _))
  clear hwq b3 x3 x4 a0
  generalize w.heap.size = C at *
  have r0 : wq.cell? ⟨wp, 0, none⟩ = some (.pointer (some ⟨p, 0, none⟩)) := rowV_cell HB.out.row 0
  have r1 : wq.cell? ⟨wp, 1, none⟩ = some (.pointer (some ⟨q, 0, none⟩)) := rowV_cell HB.out.row 1
  have r2 : wq.cell? ⟨wp, 2, none⟩ = some (.pointer (some ⟨l, 0, none⟩)) := rowV_cell HB.out.row 2
  have r3 : wq.cell? ⟨wp, 3, none⟩ = some (.pointer (some ⟨x, 0, none⟩)) := rowV_cell HB.out.row 3
  have s0 : wq.cell? ⟨C, 0, none⟩ = some (.int .i64 kind) := rowV_cell HB.out.box 0
  have s1 : wq.cell? ⟨C, 1, none⟩ = some (.int .i64 an) := rowV_cell HB.out.box 1
  have s2 : wq.cell? ⟨C, 2, none⟩ = some (.int .i64 am) := rowV_cell HB.out.box 2
  have s3 : wq.cell? ⟨C, 3, none⟩ = some (.slice xa lst.length xc) := rowV_cell HB.out.box 3
  have s4 : wq.cell? ⟨C, 4, none⟩ = some (.string raw) := rowV_cell HB.out.box 4
  have s5 : wq.cell? ⟨C, 5, none⟩ = some (.slice fa F.length fc) := rowV_cell HB.out.box 5
  have HY := Lib.hid H.out.2.1
  go_wp2_with fail
  go_region_held3 (fun wx => wx.cell? ⟨wp, 2, none⟩ = some (.pointer (some ⟨l, 0, none⟩)) ∧ wx.cell? ⟨wp, 3, none⟩ = some (.pointer (some ⟨x, 0, none⟩)) ∧ wx.cell? ⟨C, 1, none⟩ = some (.int .i64 an))
    (first
      | exact ⟨r2, r3, s1⟩
      | exact ⟨(stay ho4 HB.out.wpC.1 (.inl HY.out) r2), (stay ho4 HB.out.wpC.1 (.inl HY.out) r3), (stay ho4 HB.out.wpC.2.1 (.inr rfl) s1)⟩
      | exact ⟨(stay ho5 (Nat.lt_of_lt_of_le HB.out.wpC.1 ho4.size) (.inl HY.out) (stay ho4 HB.out.wpC.1 (.inl HY.out) r2)), (stay ho5 (Nat.lt_of_lt_of_le HB.out.wpC.1 ho4.size) (.inl HY.out) (stay ho4 HB.out.wpC.1 (.inl HY.out) r3)), (stay ho5 (Nat.lt_of_lt_of_le HB.out.wpC.2.1 ho4.size) (.inr rfl) (stay ho4 HB.out.wpC.2.1 (.inr rfl) s1))⟩)
    (first
      | (go_at_call 21; refine (q_trim (quad2_below HB.out.quad (Below.refl _ _).drew) HX.out.1.1 HX.out.1.2 T).mono ?_; rintro e w4 ⟨rfl, h4, ho4⟩)
      | (go_at_call 26; refine (q_rtrim h4 HX.out.1.1 HX.out.1.2 T).mono ?_; rintro e w5 ⟨rfl, h5, ho5⟩))
  have H5 := Lib.hid (And.intro h5 ((Only.refl _ _).drew.more (ho4.more ho5)))
  clear h4 ho4 h5 ho5
  go_wp2_with fail
  go_ret
  obtain ⟨hE1, hE2⟩ := step_end HB.out HY.out H5.out.1 H5.out.2 (bnd_trim H.out.2.2 T)
  exact ⟨rfl, hE1, hE2⟩
set_option maxRecDepth 100000 in
set_option maxHeartbeats 4000000 in
theorem wstep_4 (h : Wopt w Y wp p q fr n d (some g)) (hY : Y wp) (hbd : Bnd m k d (some g)) (hk : k ≤ 25) (hn : n ≤ 9223372036854775807) (kind an am : Int) (lst : List ByteArray) (raw : ByteArray) (F : List Int) (xa fa : Option Addr) (xc fc : Nat) (hkind : kind = 4) :
    Calls Try.prog 12 #[.pointer (some ⟨wp, 0, none⟩), .agg (act7C ⟨kind, an, am, lst, raw, F⟩ xa xc fa fc)] w (StepP Y wp p q fr n m k w) := by
  obtain ⟨l, x, hB, b3, x3, x4, a0⟩ := base_of h ⟨kind, an, am, lst, raw, F⟩ xa xc fa fc
  have q3 : (kind == 3) = false := by rw [hkind]; rfl
  have q4 : (kind == 4) = true := by rw [hkind]; rfl
  have H := Lib.hid (And.intro hB (And.intro hY hbd))
  have HX := Lib.hid (And.intro trivial (And.intro hk hn))
  clear hB hY hbd h hk hn hkind
  go_enter Try.func12, Try.ntmps12
  go_wp2_with fail
  go_quiet (fail)
  generalize hwq : World.drewN _ _ = wq at *
  have HB := Lib.hid (show Base (w.alloc (.cells (act7C ⟨kind, an, am, lst, raw, F⟩ xa xc fa fc) 42)) Y wp p q l x w.heap.size fr n d g ⟨kind, an, am, lst, raw, F⟩ xa xc fa fc w wq by rw [← hwq]; exact base_below H.out.1 (below_drewN (Below.refl _ _) _))
  clear hwq b3 x3 x4 a0
  generalize w.heap.size = C at *
  have r0 : wq.cell? ⟨wp, 0, none⟩ = some (.pointer (some ⟨p, 0, none⟩)) := rowV_cell HB.out.row 0
  have r1 : wq.cell? ⟨wp, 1, none⟩ = some (.pointer (some ⟨q, 0, none⟩)) := rowV_cell HB.out.row 1
  have r2 : wq.cell? ⟨wp, 2, none⟩ = some (.pointer (some ⟨l, 0, none⟩)) := rowV_cell HB.out.row 2
  have r3 : wq.cell? ⟨wp, 3, none⟩ = some (.pointer (some ⟨x, 0, none⟩)) := rowV_cell HB.out.row 3
  have s0 : wq.cell? ⟨C, 0, none⟩ = some (.int .i64 kind) := rowV_cell HB.out.box 0
  have s1 : wq.cell? ⟨C, 1, none⟩ = some (.int .i64 an) := rowV_cell HB.out.box 1
  have s2 : wq.cell? ⟨C, 2, none⟩ = some (.int .i64 am) := rowV_cell HB.out.box 2
  have s3 : wq.cell? ⟨C, 3, none⟩ = some (.slice xa lst.length xc) := rowV_cell HB.out.box 3
  have s4 : wq.cell? ⟨C, 4, none⟩ = some (.string raw) := rowV_cell HB.out.box 4
  have s5 : wq.cell? ⟨C, 5, none⟩ = some (.slice fa F.length fc) := rowV_cell HB.out.box 5
  have HY := Lib.hid H.out.2.1
  have cO := wworld_open (o := some g) (Y := fun j => Y j ∨ j = C) (show Wopt wq (fun j => Y j ∨ j = C) wp p q fr n d (some g) from ⟨l, x, HB.out.row, HB.out.quad⟩) (.inl HY.out) HX.out.2.2 g.tail g.head
  go_wp2_with fail
  refine cO.mono ?_
  rintro e w4 ⟨rfl, h4, ho4⟩
  have H4 := Lib.hid (And.intro h4 ho4)
  clear h4 ho4 cO
  go_wp2_with fail
  go_ret
  obtain ⟨hE1, hE2⟩ := step_open HB.out (Only.refl _ _) H4.out.1 H4.out.2 (bnd_open H.out.2.2)
  exact ⟨rfl, hE1, hE2⟩
set_option maxRecDepth 100000 in
set_option maxHeartbeats 4000000 in
theorem wstep_5 (h : Wopt w Y wp p q fr n d (some g)) (hY : Y wp) (hbd : Bnd m k d (some g)) (hk : k ≤ 25) (hn : n ≤ 9223372036854775807) (kind an am : Int) (lst : List ByteArray) (raw : ByteArray) (F : List Int) (xa fa : Option Addr) (xc fc : Nat) (hkind : kind = 5) :
    Calls Try.prog 12 #[.pointer (some ⟨wp, 0, none⟩), .agg (act7C ⟨kind, an, am, lst, raw, F⟩ xa xc fa fc)] w (StepP Y wp p q fr n m k w) := by
  obtain ⟨l, x, hB, b3, x3, x4, a0⟩ := base_of h ⟨kind, an, am, lst, raw, F⟩ xa xc fa fc
  have q3 : (kind == 3) = false := by rw [hkind]; rfl
  have q4 : (kind == 4) = false := by rw [hkind]; rfl
  have q5 : (kind == 5) = true := by rw [hkind]; rfl
  have H := Lib.hid (And.intro hB (And.intro hY hbd))
  have HX := Lib.hid (And.intro trivial (And.intro hk hn))
  clear hB hY hbd h hk hn hkind
  go_enter Try.func12, Try.ntmps12
  go_wp2_with fail
  go_quiet (fail)
  generalize hwq : World.drewN _ _ = wq at *
  have HB := Lib.hid (show Base (w.alloc (.cells (act7C ⟨kind, an, am, lst, raw, F⟩ xa xc fa fc) 42)) Y wp p q l x w.heap.size fr n d g ⟨kind, an, am, lst, raw, F⟩ xa xc fa fc w wq by rw [← hwq]; exact base_below H.out.1 (below_drewN (Below.refl _ _) _))
  clear hwq b3 x3 x4 a0
  generalize w.heap.size = C at *
  have r0 : wq.cell? ⟨wp, 0, none⟩ = some (.pointer (some ⟨p, 0, none⟩)) := rowV_cell HB.out.row 0
  have r1 : wq.cell? ⟨wp, 1, none⟩ = some (.pointer (some ⟨q, 0, none⟩)) := rowV_cell HB.out.row 1
  have r2 : wq.cell? ⟨wp, 2, none⟩ = some (.pointer (some ⟨l, 0, none⟩)) := rowV_cell HB.out.row 2
  have r3 : wq.cell? ⟨wp, 3, none⟩ = some (.pointer (some ⟨x, 0, none⟩)) := rowV_cell HB.out.row 3
  have s0 : wq.cell? ⟨C, 0, none⟩ = some (.int .i64 kind) := rowV_cell HB.out.box 0
  have s1 : wq.cell? ⟨C, 1, none⟩ = some (.int .i64 an) := rowV_cell HB.out.box 1
  have s2 : wq.cell? ⟨C, 2, none⟩ = some (.int .i64 am) := rowV_cell HB.out.box 2
  have s3 : wq.cell? ⟨C, 3, none⟩ = some (.slice xa lst.length xc) := rowV_cell HB.out.box 3
  have s4 : wq.cell? ⟨C, 4, none⟩ = some (.string raw) := rowV_cell HB.out.box 4
  have s5 : wq.cell? ⟨C, 5, none⟩ = some (.slice fa F.length fc) := rowV_cell HB.out.box 5
  have HY := Lib.hid H.out.2.1
  have cO := wworld_open (o := some g) (Y := fun j => Y j ∨ j = C) (show Wopt wq (fun j => Y j ∨ j = C) wp p q fr n d (some g) from ⟨l, x, HB.out.row, HB.out.quad⟩) (.inl HY.out) HX.out.2.2 an am
  go_wp2_with fail
  refine cO.mono ?_
  rintro e w4 ⟨rfl, h4, ho4⟩
  have H4 := Lib.hid (And.intro h4 ho4)
  clear h4 ho4 cO
  go_wp2_with fail
  go_ret
  obtain ⟨hE1, hE2⟩ := step_open HB.out (Only.refl _ _) H4.out.1 H4.out.2 (bnd_open H.out.2.2)
  exact ⟨rfl, hE1, hE2⟩
set_option maxRecDepth 100000 in
set_option maxHeartbeats 4000000 in
theorem wstep_6 (h : Wopt w Y wp p q fr n d (some g)) (hY : Y wp) (hbd : Bnd m k d (some g)) (hk : k ≤ 25) (hn : n ≤ 9223372036854775807) (kind an am : Int) (lst : List ByteArray) (raw : ByteArray) (F : List Int) (xa fa : Option Addr) (xc fc : Nat) (hkind : kind = 6) (hi : -9223372036854775808 ≤ an ∧ an ≤ 9223372036854775807) :
    Calls Try.prog 12 #[.pointer (some ⟨wp, 0, none⟩), .agg (act7C ⟨kind, an, am, lst, raw, F⟩ xa xc fa fc)] w (StepP Y wp p q fr n m k w) := by
  obtain ⟨l, x, hB, b3, x3, x4, a0⟩ := base_of h ⟨kind, an, am, lst, raw, F⟩ xa xc fa fc
  have q3 : (kind == 3) = false := by rw [hkind]; rfl
  have q4 : (kind == 4) = false := by rw [hkind]; rfl
  have q5 : (kind == 5) = false := by rw [hkind]; rfl
  have q6 : (kind == 6) = true := by rw [hkind]; rfl
  have H := Lib.hid (And.intro hB (And.intro hY hbd))
  have HX := Lib.hid (And.intro hi (And.intro hk hn))
  clear hB hY hbd h hk hn hkind hi
  go_enter Try.func12, Try.ntmps12
  go_wp2_with fail
  go_quiet (fail)
  generalize hwq : World.drewN _ _ = wq at *
  have HB := Lib.hid (show Base (w.alloc (.cells (act7C ⟨kind, an, am, lst, raw, F⟩ xa xc fa fc) 42)) Y wp p q l x w.heap.size fr n d g ⟨kind, an, am, lst, raw, F⟩ xa xc fa fc w wq by rw [← hwq]; exact base_below H.out.1 (below_drewN (Below.refl _ _) _))
  clear hwq b3 x3 x4 a0
  generalize w.heap.size = C at *
  have r0 : wq.cell? ⟨wp, 0, none⟩ = some (.pointer (some ⟨p, 0, none⟩)) := rowV_cell HB.out.row 0
  have r1 : wq.cell? ⟨wp, 1, none⟩ = some (.pointer (some ⟨q, 0, none⟩)) := rowV_cell HB.out.row 1
  have r2 : wq.cell? ⟨wp, 2, none⟩ = some (.pointer (some ⟨l, 0, none⟩)) := rowV_cell HB.out.row 2
  have r3 : wq.cell? ⟨wp, 3, none⟩ = some (.pointer (some ⟨x, 0, none⟩)) := rowV_cell HB.out.row 3
  have s0 : wq.cell? ⟨C, 0, none⟩ = some (.int .i64 kind) := rowV_cell HB.out.box 0
  have s1 : wq.cell? ⟨C, 1, none⟩ = some (.int .i64 an) := rowV_cell HB.out.box 1
  have s2 : wq.cell? ⟨C, 2, none⟩ = some (.int .i64 am) := rowV_cell HB.out.box 2
  have s3 : wq.cell? ⟨C, 3, none⟩ = some (.slice xa lst.length xc) := rowV_cell HB.out.box 3
  have s4 : wq.cell? ⟨C, 4, none⟩ = some (.string raw) := rowV_cell HB.out.box 4
  have s5 : wq.cell? ⟨C, 5, none⟩ = some (.slice fa F.length fc) := rowV_cell HB.out.box 5
  have HY := Lib.hid H.out.2.1
  go_wp2_with fail
  go_region_held3 (fun wx => wx.cell? ⟨wp, 0, none⟩ = some (.pointer (some ⟨p, 0, none⟩)) ∧ wx.cell? ⟨wp, 1, none⟩ = some (.pointer (some ⟨q, 0, none⟩)) ∧ wx.cell? ⟨C, 1, none⟩ = some (.int .i64 an))
    (first
      | exact ⟨r0, r1, s1⟩
      | exact ⟨(stay ho4 HB.out.wpC.1 (.inl HY.out) r0), (stay ho4 HB.out.wpC.1 (.inl HY.out) r1), (stay ho4 HB.out.wpC.2.1 (.inr rfl) s1)⟩
      | exact ⟨(stay ho5 (Nat.lt_of_lt_of_le HB.out.wpC.1 ho4.size) (.inl HY.out) (stay ho4 HB.out.wpC.1 (.inl HY.out) r0)), (stay ho5 (Nat.lt_of_lt_of_le HB.out.wpC.1 ho4.size) (.inl HY.out) (stay ho4 HB.out.wpC.1 (.inl HY.out) r1)), (stay ho5 (Nat.lt_of_lt_of_le HB.out.wpC.2.1 ho4.size) (.inr rfl) (stay ho4 HB.out.wpC.2.1 (.inr rfl) s1))⟩)
    (first
      | (go_at_call 27; refine (q_arm (quad2_below HB.out.quad (Below.refl _ _).drew) an HX.out.1.1 HX.out.1.2).mono ?_; rintro e w4 ⟨rfl, h4, ho4⟩)
      | (go_at_call 28; refine (q_rarm h4 an HX.out.1.1 HX.out.1.2).mono ?_; rintro e w5 ⟨rfl, h5, ho5⟩))
  have H5 := Lib.hid (And.intro h5 ((Only.refl _ _).drew.more (ho4.more ho5)))
  clear h4 ho4 h5 ho5
  go_wp2_with fail
  go_ret
  obtain ⟨hE1, hE2⟩ := step_end HB.out HY.out H5.out.1 H5.out.2 (bnd_disk H.out.2.2 (arm_B d an).1 (arm_B d an).2)
  exact ⟨rfl, hE1, hE2⟩
set_option maxRecDepth 100000 in
set_option maxHeartbeats 4000000 in
theorem wstep_8 (h : Wopt w Y wp p q fr n d (some g)) (hY : Y wp) (hbd : Bnd m k d (some g)) (hk : k ≤ 25) (hn : n ≤ 9223372036854775807) (kind an am : Int) (lst : List ByteArray) (raw : ByteArray) (F : List Int) (xa fa : Option Addr) (xc fc : Nat) (hkind : kind = 8) :
    Calls Try.prog 12 #[.pointer (some ⟨wp, 0, none⟩), .agg (act7C ⟨kind, an, am, lst, raw, F⟩ xa xc fa fc)] w (StepP Y wp p q fr n m k w) := by
  obtain ⟨l, x, hB, b3, x3, x4, a0⟩ := base_of h ⟨kind, an, am, lst, raw, F⟩ xa xc fa fc
  have q3 : (kind == 3) = false := by rw [hkind]; rfl
  have q4 : (kind == 4) = false := by rw [hkind]; rfl
  have q5 : (kind == 5) = false := by rw [hkind]; rfl
  have q6 : (kind == 6) = false := by rw [hkind]; rfl
  have q7 : (kind == 7) = false := by rw [hkind]; rfl
  have q8 : (kind == 8) = true := by rw [hkind]; rfl
  have H := Lib.hid (And.intro hB (And.intro hY hbd))
  have HX := Lib.hid (And.intro trivial (And.intro hk hn))
  clear hB hY hbd h hk hn hkind
  go_enter Try.func12, Try.ntmps12
  go_wp2_with fail
  go_quiet (fail)
  generalize hwq : World.drewN _ _ = wq at *
  have HB := Lib.hid (show Base (w.alloc (.cells (act7C ⟨kind, an, am, lst, raw, F⟩ xa xc fa fc) 42)) Y wp p q l x w.heap.size fr n d g ⟨kind, an, am, lst, raw, F⟩ xa xc fa fc w wq by rw [← hwq]; exact base_below H.out.1 (below_drewN (Below.refl _ _) _))
  clear hwq b3 x3 x4 a0
  generalize w.heap.size = C at *
  have r0 : wq.cell? ⟨wp, 0, none⟩ = some (.pointer (some ⟨p, 0, none⟩)) := rowV_cell HB.out.row 0
  have r1 : wq.cell? ⟨wp, 1, none⟩ = some (.pointer (some ⟨q, 0, none⟩)) := rowV_cell HB.out.row 1
  have r2 : wq.cell? ⟨wp, 2, none⟩ = some (.pointer (some ⟨l, 0, none⟩)) := rowV_cell HB.out.row 2
  have r3 : wq.cell? ⟨wp, 3, none⟩ = some (.pointer (some ⟨x, 0, none⟩)) := rowV_cell HB.out.row 3
  have s0 : wq.cell? ⟨C, 0, none⟩ = some (.int .i64 kind) := rowV_cell HB.out.box 0
  have s1 : wq.cell? ⟨C, 1, none⟩ = some (.int .i64 an) := rowV_cell HB.out.box 1
  have s2 : wq.cell? ⟨C, 2, none⟩ = some (.int .i64 am) := rowV_cell HB.out.box 2
  have s3 : wq.cell? ⟨C, 3, none⟩ = some (.slice xa lst.length xc) := rowV_cell HB.out.box 3
  have s4 : wq.cell? ⟨C, 4, none⟩ = some (.string raw) := rowV_cell HB.out.box 4
  have s5 : wq.cell? ⟨C, 5, none⟩ = some (.slice fa F.length fc) := rowV_cell HB.out.box 5
  have HY := Lib.hid H.out.2.1
  go_wp2_with fail
  go_region_held3 (fun wx => wx.cell? ⟨wp, 0, none⟩ = some (.pointer (some ⟨p, 0, none⟩)) ∧ wx.cell? ⟨wp, 1, none⟩ = some (.pointer (some ⟨q, 0, none⟩)))
    (first
      | exact ⟨r0, r1⟩
      | exact ⟨(stay ho4 HB.out.wpC.1 (.inl HY.out) r0), (stay ho4 HB.out.wpC.1 (.inl HY.out) r1)⟩
      | exact ⟨(stay ho5 (Nat.lt_of_lt_of_le HB.out.wpC.1 ho4.size) (.inl HY.out) (stay ho4 HB.out.wpC.1 (.inl HY.out) r0)), (stay ho5 (Nat.lt_of_lt_of_le HB.out.wpC.1 ho4.size) (.inl HY.out) (stay ho4 HB.out.wpC.1 (.inl HY.out) r1))⟩)
    (first
      | (go_at_call 22; refine (q_flush (quad2_below HB.out.quad (Below.refl _ _).drew)).mono ?_; rintro e w4 ⟨rfl, h4, ho4⟩)
      | (go_at_call 30; refine (q_rflush h4).mono ?_; rintro e w5 ⟨rfl, h5, ho5⟩))
  have H5 := Lib.hid (And.intro h5 ((Only.refl _ _).drew.more (ho4.more ho5)))
  clear h4 ho4 h5 ho5
  go_wp2_with fail
  go_ret
  obtain ⟨hE1, hE2⟩ := step_end HB.out HY.out H5.out.1 H5.out.2 (bnd_disk H.out.2.2 (flush_B d).1 (flush_B d).2)
  exact ⟨rfl, hE1, hE2⟩
set_option maxRecDepth 100000 in
set_option maxHeartbeats 4000000 in
theorem wstep_0 (h : Wopt w Y wp p q fr n d (some g)) (hY : Y wp) (hbd : Bnd m k d (some g)) (hk : k ≤ 25) (hn : n ≤ 9223372036854775807) (kind an am : Int) (lst : List ByteArray) (raw : ByteArray) (F : List Int) (xa fa : Option Addr) (xc fc : Nat) (hkind : ¬ (3 ≤ kind ∧ kind ≤ 9)) (hl : lst.length ≤ 20) (hrS : ReadsS w xa lst) (hxa : ∀ a, xa = some a → lst ≠ [] → Y a.block) :
    Calls Try.prog 12 #[.pointer (some ⟨wp, 0, none⟩), .agg (act7C ⟨kind, an, am, lst, raw, F⟩ xa xc fa fc)] w (StepP Y wp p q fr n m k w) := by
  obtain ⟨l, x, hB, b3, x3, x4, a0⟩ := base_of h ⟨kind, an, am, lst, raw, F⟩ xa xc fa fc
  have q3 : (kind == 3) = false := by rw [beq_eq_false_iff_ne]; omega
  have q4 : (kind == 4) = false := by rw [beq_eq_false_iff_ne]; omega
  have q5 : (kind == 5) = false := by rw [beq_eq_false_iff_ne]; omega
  have q6 : (kind == 6) = false := by rw [beq_eq_false_iff_ne]; omega
  have q7 : (kind == 7) = false := by rw [beq_eq_false_iff_ne]; omega
  have q8 : (kind == 8) = false := by rw [beq_eq_false_iff_ne]; omega
  have q9 : (kind == 9) = false := by rw [beq_eq_false_iff_ne]; omega
  obtain ⟨hgood, hhead⟩ := hbd.log g rfl
  have hW := hbd.loose
  have hgB : Wl.Good d.B.length g := by rw [hbd.blocks]; exact hgood
  have hh : g.head + lst.length ≤ 1125900000000000 := by omega
  have hWl : d.W.length + lst.length ≤ 1000000 := by omega
  have hrS0 : ReadsS (w.alloc (.cells (act7C ⟨kind, an, am, lst, raw, F⟩ xa xc fa fc) 42)) xa lst := readsS_below hrS ((Below.refl _ _).alloc (Nat.le_refl _) _)
  have H := Lib.hid (And.intro hB (And.intro hY hbd))
  have HX := Lib.hid (And.intro (And.intro hgB (And.intro hh (And.intro hWl (And.intro hrS0 (And.intro hxa hl))))) (And.intro hk hn))
  clear hB hY hbd h hk hn hkind hgood hgB hhead hW hh hWl hrS0 hrS hxa hl
  go_enter Try.func12, Try.ntmps12
  go_wp2_with fail
  go_quiet (fail)
  generalize hwq : World.drewN _ _ = wq at *
  have HB := Lib.hid (show Base (w.alloc (.cells (act7C ⟨kind, an, am, lst, raw, F⟩ xa xc fa fc) 42)) Y wp p q l x w.heap.size fr n d g ⟨kind, an, am, lst, raw, F⟩ xa xc fa fc w wq by rw [← hwq]; exact base_below H.out.1 (below_drewN (Below.refl _ _) _))
  clear hwq b3 x3 x4 a0
  generalize w.heap.size = C at *
  have r0 : wq.cell? ⟨wp, 0, none⟩ = some (.pointer (some ⟨p, 0, none⟩)) := rowV_cell HB.out.row 0
  have r1 : wq.cell? ⟨wp, 1, none⟩ = some (.pointer (some ⟨q, 0, none⟩)) := rowV_cell HB.out.row 1
  have r2 : wq.cell? ⟨wp, 2, none⟩ = some (.pointer (some ⟨l, 0, none⟩)) := rowV_cell HB.out.row 2
  have r3 : wq.cell? ⟨wp, 3, none⟩ = some (.pointer (some ⟨x, 0, none⟩)) := rowV_cell HB.out.row 3
  have s0 : wq.cell? ⟨C, 0, none⟩ = some (.int .i64 kind) := rowV_cell HB.out.box 0
  have s1 : wq.cell? ⟨C, 1, none⟩ = some (.int .i64 an) := rowV_cell HB.out.box 1
  have s2 : wq.cell? ⟨C, 2, none⟩ = some (.int .i64 am) := rowV_cell HB.out.box 2
  have s3 : wq.cell? ⟨C, 3, none⟩ = some (.slice xa lst.length xc) := rowV_cell HB.out.box 3
  have s4 : wq.cell? ⟨C, 4, none⟩ = some (.string raw) := rowV_cell HB.out.box 4
  have s5 : wq.cell? ⟨C, 5, none⟩ = some (.slice fa F.length fc) := rowV_cell HB.out.box 5
  have HY := Lib.hid H.out.2.1
  have HR := Lib.hid (readsS_below HX.out.1.2.2.2.1 HB.out.below)
  go_wp2_with fail
  go_region_held3 (fun wx => wx.cell? ⟨wp, 2, none⟩ = some (.pointer (some ⟨l, 0, none⟩)) ∧ wx.cell? ⟨wp, 3, none⟩ = some (.pointer (some ⟨x, 0, none⟩)) ∧ wx.cell? ⟨C, 3, none⟩ = some (.slice xa lst.length xc))
    (first
      | exact ⟨r2, r3, s3⟩
      | exact ⟨(stay ho4 HB.out.wpC.1 (.inl HY.out) r2), (stay ho4 HB.out.wpC.1 (.inl HY.out) r3), (stay ho4 HB.out.wpC.2.1 (.inr rfl) s3)⟩
      | exact ⟨(stay ho5 (Nat.lt_of_lt_of_le HB.out.wpC.1 ho4.size) (.inl HY.out) (stay ho4 HB.out.wpC.1 (.inl HY.out) r2)), (stay ho5 (Nat.lt_of_lt_of_le HB.out.wpC.1 ho4.size) (.inl HY.out) (stay ho4 HB.out.wpC.1 (.inl HY.out) r3)), (stay ho5 (Nat.lt_of_lt_of_le HB.out.wpC.2.1 ho4.size) (.inr rfl) (stay ho4 HB.out.wpC.2.1 (.inr rfl) s3))⟩)
    (first
      | (go_at_call 20; refine (q_app (quad2_below HB.out.quad (Below.refl _ _).drew) HX.out.1.1 xa lst xc (readsS_below HR.out (Below.refl _ _).drew) (fun a ha hne => .inl (HX.out.1.2.2.2.2.1 a ha hne)) (by have := HX.out.1.2.2.2.2.2; omega) HX.out.1.2.1 HX.out.1.2.2.1).mono ?_; rintro e w4 ⟨rfl, h4, ho4⟩)
      | (go_at_call 33; refine (q_rapp h4 HX.out.1.1 xa lst xc (readsS_stay (readsS_below HR.out (Below.refl _ _).drew) ho4 (fun a ha hne => .inl (HX.out.1.2.2.2.2.1 a ha hne))) (fun a ha hne => .inl (HX.out.1.2.2.2.2.1 a ha hne)) (by have := HX.out.1.2.2.2.2.2; omega) HX.out.1.2.1 HX.out.1.2.2.1).mono ?_; rintro e w5 ⟨rfl, h5, ho5⟩))
  have H5 := Lib.hid (And.intro h5 ((Only.refl _ _).drew.more (ho4.more ho5)))
  clear h4 ho4 h5 ho5
  go_wp2_with fail
  go_ret
  obtain ⟨hE1, hE2⟩ := step_end HB.out HY.out H5.out.1 H5.out.2 (bnd_app H.out.2.2 lst HX.out.1.2.2.2.2.2)
  exact ⟨rfl, hE1, hE2⟩
set_option maxRecDepth 100000 in
set_option maxHeartbeats 4000000 in
theorem wstep_9a (h : Wopt w Y wp p q fr n d (some g)) (hY : Y wp) (hbd : Bnd m k d (some g)) (hk : k ≤ 25) (hn : n ≤ 9223372036854775807) (kind an am : Int) (lst : List ByteArray) (raw : ByteArray) (F : List Int) (xa fa : Option Addr) (xc fc : Nat) (hkind : kind = 9) (hE : Dk.writeE d an raw ≠ 0) :
    Calls Try.prog 12 #[.pointer (some ⟨wp, 0, none⟩), .agg (act7C ⟨kind, an, am, lst, raw, F⟩ xa xc fa fc)] w (StepP Y wp p q fr n m k w) := by
  obtain ⟨l, x, hB, b3, x3, x4, a0⟩ := base_of h ⟨kind, an, am, lst, raw, F⟩ xa xc fa fc
  have q3 : (kind == 3) = false := by rw [hkind]; rfl
  have q4 : (kind == 4) = false := by rw [hkind]; rfl
  have q5 : (kind == 5) = false := by rw [hkind]; rfl
  have q6 : (kind == 6) = false := by rw [hkind]; rfl
  have q7 : (kind == 7) = false := by rw [hkind]; rfl
  have q8 : (kind == 8) = false := by rw [hkind]; rfl
  have q9 : (kind == 9) = true := by rw [hkind]; rfl
  have hWl : d.W.length ≤ 1000000 := by have := hbd.loose; omega
  have qE : (Dk.writeE d an raw != 0) = true := by simpa using hE
  have H := Lib.hid (And.intro hB (And.intro hY hbd))
  have HX := Lib.hid (And.intro hWl (And.intro hk hn))
  clear hB hY hbd h hk hn hkind hE hWl
  go_enter Try.func12, Try.ntmps12
  go_wp2_with fail
  go_quiet (fail)
  generalize hwq : World.drewN _ _ = wq at *
  have HB := Lib.hid (show Base (w.alloc (.cells (act7C ⟨kind, an, am, lst, raw, F⟩ xa xc fa fc) 42)) Y wp p q l x w.heap.size fr n d g ⟨kind, an, am, lst, raw, F⟩ xa xc fa fc w wq by rw [← hwq]; exact base_below H.out.1 (below_drewN (Below.refl _ _) _))
  clear hwq b3 x3 x4 a0
  generalize w.heap.size = C at *
  have r0 : wq.cell? ⟨wp, 0, none⟩ = some (.pointer (some ⟨p, 0, none⟩)) := rowV_cell HB.out.row 0
  have r1 : wq.cell? ⟨wp, 1, none⟩ = some (.pointer (some ⟨q, 0, none⟩)) := rowV_cell HB.out.row 1
  have r2 : wq.cell? ⟨wp, 2, none⟩ = some (.pointer (some ⟨l, 0, none⟩)) := rowV_cell HB.out.row 2
  have r3 : wq.cell? ⟨wp, 3, none⟩ = some (.pointer (some ⟨x, 0, none⟩)) := rowV_cell HB.out.row 3
  have s0 : wq.cell? ⟨C, 0, none⟩ = some (.int .i64 kind) := rowV_cell HB.out.box 0
  have s1 : wq.cell? ⟨C, 1, none⟩ = some (.int .i64 an) := rowV_cell HB.out.box 1
  have s2 : wq.cell? ⟨C, 2, none⟩ = some (.int .i64 am) := rowV_cell HB.out.box 2
  have s3 : wq.cell? ⟨C, 3, none⟩ = some (.slice xa lst.length xc) := rowV_cell HB.out.box 3
  have s4 : wq.cell? ⟨C, 4, none⟩ = some (.string raw) := rowV_cell HB.out.box 4
  have s5 : wq.cell? ⟨C, 5, none⟩ = some (.slice fa F.length fc) := rowV_cell HB.out.box 5
  have HY := Lib.hid H.out.2.1
  go_wp2_with fail
  go_region_held3 (fun wx => wx.cell? ⟨wp, 0, none⟩ = some (.pointer (some ⟨p, 0, none⟩)) ∧ wx.cell? ⟨wp, 1, none⟩ = some (.pointer (some ⟨q, 0, none⟩)) ∧ wx.cell? ⟨C, 1, none⟩ = some (.int .i64 an) ∧ wx.cell? ⟨C, 4, none⟩ = some (.string raw))
    (first
      | exact ⟨r0, r1, s1, s4⟩
      | exact ⟨(stay ho4 HB.out.wpC.1 (.inl HY.out) r0), (stay ho4 HB.out.wpC.1 (.inl HY.out) r1), (stay ho4 HB.out.wpC.2.1 (.inr rfl) s1), (stay ho4 HB.out.wpC.2.1 (.inr rfl) s4)⟩
      | exact ⟨(stay ho5 (Nat.lt_of_lt_of_le HB.out.wpC.1 ho4.size) (.inl HY.out) (stay ho4 HB.out.wpC.1 (.inl HY.out) r0)), (stay ho5 (Nat.lt_of_lt_of_le HB.out.wpC.1 ho4.size) (.inl HY.out) (stay ho4 HB.out.wpC.1 (.inl HY.out) r1)), (stay ho5 (Nat.lt_of_lt_of_le HB.out.wpC.2.1 ho4.size) (.inr rfl) (stay ho4 HB.out.wpC.2.1 (.inr rfl) s1)), (stay ho5 (Nat.lt_of_lt_of_le HB.out.wpC.2.1 ho4.size) (.inr rfl) (stay ho4 HB.out.wpC.2.1 (.inr rfl) s4))⟩)
    (first
      | (go_at_call 31; refine (q_write (quad2_below HB.out.quad (Below.refl _ _).drew) an raw HX.out.1).mono ?_; rintro e w4 ⟨rfl, h4, ho4⟩)
      | (go_at_call 32; refine (q_rwrite h4 an raw HX.out.1).mono ?_; rintro e w5 ⟨rfl, h5, ho5⟩))
  have H5 := Lib.hid (And.intro h5 ((Only.refl _ _).drew.more (ho4.more ho5)))
  clear h4 ho4 h5 ho5
  go_wp2_with fail
  go_ret
  obtain ⟨hE1, hE2⟩ := step_end HB.out HY.out H5.out.1 H5.out.2 (bnd_disk H.out.2.2 (put_B d an raw).1 (put_B d an raw).2)
  exact ⟨rfl, hE1, hE2⟩
set_option maxRecDepth 100000 in
set_option maxHeartbeats 4000000 in
theorem wstep_9b (h : Wopt w Y wp p q fr n d (some g)) (hY : Y wp) (hbd : Bnd m k d (some g)) (hk : k ≤ 25) (hn : n ≤ 9223372036854775807) (kind an am : Int) (lst : List ByteArray) (raw : ByteArray) (F : List Int) (xa fa : Option Addr) (xc fc : Nat) (hkind : kind = 9) (hE : Dk.writeE d an raw = 0) :
    Calls Try.prog 12 #[.pointer (some ⟨wp, 0, none⟩), .agg (act7C ⟨kind, an, am, lst, raw, F⟩ xa xc fa fc)] w (StepP Y wp p q fr n m k w) := by
  obtain ⟨l, x, hB, b3, x3, x4, a0⟩ := base_of h ⟨kind, an, am, lst, raw, F⟩ xa xc fa fc
  have q3 : (kind == 3) = false := by rw [hkind]; rfl
  have q4 : (kind == 4) = false := by rw [hkind]; rfl
  have q5 : (kind == 5) = false := by rw [hkind]; rfl
  have q6 : (kind == 6) = false := by rw [hkind]; rfl
  have q7 : (kind == 7) = false := by rw [hkind]; rfl
  have q8 : (kind == 8) = false := by rw [hkind]; rfl
  have q9 : (kind == 9) = true := by rw [hkind]; rfl
  have hWl : d.W.length ≤ 1000000 := by have := hbd.loose; omega
  have H := Lib.hid (And.intro hB (And.intro hY hbd))
  have HX := Lib.hid (And.intro (And.intro hWl hE) (And.intro hk hn))
  clear hB hY hbd h hk hn hkind hE hWl
  go_enter Try.func12, Try.ntmps12
  go_wp2_with fail
  go_quiet (fail)
  generalize hwq : World.drewN _ _ = wq at *
  have HB := Lib.hid (show Base (w.alloc (.cells (act7C ⟨kind, an, am, lst, raw, F⟩ xa xc fa fc) 42)) Y wp p q l x w.heap.size fr n d g ⟨kind, an, am, lst, raw, F⟩ xa xc fa fc w wq by rw [← hwq]; exact base_below H.out.1 (below_drewN (Below.refl _ _) _))
  clear hwq b3 x3 x4 a0
  generalize w.heap.size = C at *
  have r0 : wq.cell? ⟨wp, 0, none⟩ = some (.pointer (some ⟨p, 0, none⟩)) := rowV_cell HB.out.row 0
  have r1 : wq.cell? ⟨wp, 1, none⟩ = some (.pointer (some ⟨q, 0, none⟩)) := rowV_cell HB.out.row 1
  have r2 : wq.cell? ⟨wp, 2, none⟩ = some (.pointer (some ⟨l, 0, none⟩)) := rowV_cell HB.out.row 2
  have r3 : wq.cell? ⟨wp, 3, none⟩ = some (.pointer (some ⟨x, 0, none⟩)) := rowV_cell HB.out.row 3
  have s0 : wq.cell? ⟨C, 0, none⟩ = some (.int .i64 kind) := rowV_cell HB.out.box 0
  have s1 : wq.cell? ⟨C, 1, none⟩ = some (.int .i64 an) := rowV_cell HB.out.box 1
  have s2 : wq.cell? ⟨C, 2, none⟩ = some (.int .i64 am) := rowV_cell HB.out.box 2
  have s3 : wq.cell? ⟨C, 3, none⟩ = some (.slice xa lst.length xc) := rowV_cell HB.out.box 3
  have s4 : wq.cell? ⟨C, 4, none⟩ = some (.string raw) := rowV_cell HB.out.box 4
  have s5 : wq.cell? ⟨C, 5, none⟩ = some (.slice fa F.length fc) := rowV_cell HB.out.box 5
  have HY := Lib.hid H.out.2.1
  have c1 := fun wx (hx : Quad2 wx (fun j => Y j ∨ j = C) l x p q d d g g) => q_write hx an raw HX.out.1.1
  have c2 := fun wx (hx : Quad2 wx (fun j => Y j ∨ j = C) l x p q (Dk.write d an raw) d g g) => q_rwrite hx an raw HX.out.1.1
  rw [HX.out.1.2] at c1 c2
  have HC := Lib.hid (And.intro c1 c2)
  clear c1 c2
  go_wp2_with fail
  go_region_held3 (fun wx => wx.cell? ⟨wp, 0, none⟩ = some (.pointer (some ⟨p, 0, none⟩)) ∧ wx.cell? ⟨wp, 1, none⟩ = some (.pointer (some ⟨q, 0, none⟩)) ∧ wx.cell? ⟨C, 1, none⟩ = some (.int .i64 an) ∧ wx.cell? ⟨C, 4, none⟩ = some (.string raw))
    (first
      | exact ⟨r0, r1, s1, s4⟩
      | exact ⟨(stay ho4 HB.out.wpC.1 (.inl HY.out) r0), (stay ho4 HB.out.wpC.1 (.inl HY.out) r1), (stay ho4 HB.out.wpC.2.1 (.inr rfl) s1), (stay ho4 HB.out.wpC.2.1 (.inr rfl) s4)⟩
      | exact ⟨(stay ho5 (Nat.lt_of_lt_of_le HB.out.wpC.1 ho4.size) (.inl HY.out) (stay ho4 HB.out.wpC.1 (.inl HY.out) r0)), (stay ho5 (Nat.lt_of_lt_of_le HB.out.wpC.1 ho4.size) (.inl HY.out) (stay ho4 HB.out.wpC.1 (.inl HY.out) r1)), (stay ho5 (Nat.lt_of_lt_of_le HB.out.wpC.2.1 ho4.size) (.inr rfl) (stay ho4 HB.out.wpC.2.1 (.inr rfl) s1)), (stay ho5 (Nat.lt_of_lt_of_le HB.out.wpC.2.1 ho4.size) (.inr rfl) (stay ho4 HB.out.wpC.2.1 (.inr rfl) s4))⟩)
    (first
      | (go_at_call 31; refine (HC.out.1 _ (quad2_below HB.out.quad (Below.refl _ _).drew)).mono ?_; rintro e w4 ⟨rfl, h4, ho4⟩)
      | (go_at_call 32; refine (HC.out.2 _ h4).mono ?_; rintro e w5 ⟨rfl, h5, ho5⟩))
  have hrow5 : WRow w5 wp p q (.pointer (some ⟨l, 0, none⟩)) (.pointer (some ⟨x, 0, none⟩)) fr n := rowV_only (rowV_only HB.out.row ((Only.refl _ _).drew.more ho4) fun hn => hn (.inl HY.out)) ho5 fun hn => hn (.inl HY.out)
  have t2 := rowV_cell hrow5 2
  have t3 := rowV_cell hrow5 3
  have u2 := rowV_frozen hrow5 2
  have u3 := rowV_frozen hrow5 3
  simp only [List.getElem?_cons_zero, List.getElem?_cons_succ] at t2 t3
  have H5 := Lib.hid (And.intro h5 (And.intro ((Only.refl _ _).drew.more (ho4.more ho5)) hrow5))
  clear h4 ho4 h5 ho5 r0 r1 r2 r3 s0 s1 s2 s3 s4 s5 hrow5
  go_wp2_with fail
  have hset : ∀ (u v : Value), Only (fun j => j = wp) w5 ((w5.setCell ⟨wp, 2, none⟩ u).setCell ⟨wp, 3, none⟩ v) := fun u v => ((Only.refl (fun j => j = wp) w5).setCell (fun _ => rfl) u).setCell (fun _ => rfl) v
  have hnone : Wopt ((w5.setCell ⟨wp, 2, none⟩ (.pointer none)).setCell ⟨wp, 3, none⟩ (.pointer none)) (fun j => Y j ∨ j = C) wp p q fr n (Dk.write d an raw) none := ⟨rowV_stored (rowV_stored H5.out.2.2 2 _) 3 _, two_at (quad_drop H5.out.1) (hset _ _) fun j e => .inl (e ▸ HY.out)⟩
  refine (wworld_open hnone (.inl HY.out) HX.out.2.2 g.tail g.head).mono ?_
  rintro e w6 ⟨rfl, h6, ho6⟩
  have H6 := Lib.hid (And.intro h6 (And.intro ho6 (hset (.pointer none) (.pointer none))))
  clear h6 ho6 hnone hset
  go_wp2_with fail
  go_ret
  obtain ⟨hE1, hE2⟩ := step_open HB.out ((H5.out.2.1.mono fun j _ hj => .inr hj).more (H6.out.2.2.mono fun j _ e => .inl e)) H6.out.1 H6.out.2.1 (bnd_none H.out.2.2 (put_B d an raw).1 (put_B d an raw).2)
  exact ⟨rfl, hE1, hE2⟩
set_option maxRecDepth 100000 in
set_option maxHeartbeats 4000000 in
theorem wstep_7 (h : Wopt w Y wp p q fr n d (some g)) (hY : Y wp) (hbd : Bnd m k d (some g)) (hk : k ≤ 25) (hn : n ≤ 9223372036854775807) (kind an am : Int) (lst : List ByteArray) (raw : ByteArray) (F : List Int) (xa fa : Option Addr) (xc fc : Nat) (hkind : kind = 7) (hrI : ReadsI w fa F) (hfa : ∀ a, fa = some a → F ≠ [] → Y a.block ∧ a.block ≠ wp) :
    Calls Try.prog 12 #[.pointer (some ⟨wp, 0, none⟩), .agg (act7C ⟨kind, an, am, lst, raw, F⟩ xa xc fa fc)] w (StepP Y wp p q fr n m k w) := by
  obtain ⟨l, x, hB, b3, x3, x4, a0⟩ := base_of h ⟨kind, an, am, lst, raw, F⟩ xa xc fa fc
  have q3 : (kind == 3) = false := by rw [hkind]; rfl
  have q4 : (kind == 4) = false := by rw [hkind]; rfl
  have q5 : (kind == 5) = false := by rw [hkind]; rfl
  have q6 : (kind == 6) = false := by rw [hkind]; rfl
  have q7 : (kind == 7) = true := by rw [hkind]; rfl
  have hrI0 : ReadsI (w.alloc (.cells (act7C ⟨kind, an, am, lst, raw, F⟩ xa xc fa fc) 42)) fa F := readsI_below hrI ((Below.refl _ _).alloc (Nat.le_refl _) _)
  have H := Lib.hid (And.intro hB (And.intro hY hbd))
  have HX := Lib.hid (And.intro (And.intro hrI0 hfa) (And.intro hk hn))
  clear hB hY hbd h hk hn hkind hrI0 hrI hfa
  go_enter Try.func12, Try.ntmps12
  go_wp2_with fail
  go_quiet (fail)
  generalize hwq : World.drewN _ _ = wq at *
  have HB := Lib.hid (show Base (w.alloc (.cells (act7C ⟨kind, an, am, lst, raw, F⟩ xa xc fa fc) 42)) Y wp p q l x w.heap.size fr n d g ⟨kind, an, am, lst, raw, F⟩ xa xc fa fc w wq by rw [← hwq]; exact base_below H.out.1 (below_drewN (Below.refl _ _) _))
  clear hwq b3 x3 x4 a0
  generalize w.heap.size = C at *
  have r0 : wq.cell? ⟨wp, 0, none⟩ = some (.pointer (some ⟨p, 0, none⟩)) := rowV_cell HB.out.row 0
  have r1 : wq.cell? ⟨wp, 1, none⟩ = some (.pointer (some ⟨q, 0, none⟩)) := rowV_cell HB.out.row 1
  have r2 : wq.cell? ⟨wp, 2, none⟩ = some (.pointer (some ⟨l, 0, none⟩)) := rowV_cell HB.out.row 2
  have r3 : wq.cell? ⟨wp, 3, none⟩ = some (.pointer (some ⟨x, 0, none⟩)) := rowV_cell HB.out.row 3
  have s0 : wq.cell? ⟨C, 0, none⟩ = some (.int .i64 kind) := rowV_cell HB.out.box 0
  have s1 : wq.cell? ⟨C, 1, none⟩ = some (.int .i64 an) := rowV_cell HB.out.box 1
  have s2 : wq.cell? ⟨C, 2, none⟩ = some (.int .i64 am) := rowV_cell HB.out.box 2
  have s3 : wq.cell? ⟨C, 3, none⟩ = some (.slice xa lst.length xc) := rowV_cell HB.out.box 3
  have s4 : wq.cell? ⟨C, 4, none⟩ = some (.string raw) := rowV_cell HB.out.box 4
  have s5 : wq.cell? ⟨C, 5, none⟩ = some (.slice fa F.length fc) := rowV_cell HB.out.box 5
  have HY := Lib.hid H.out.2.1
  have HR := Lib.hid (readsI_below HX.out.1.1 HB.out.below)
  go_wp2_with fail
  go_still_tail 6, (by kernel_rfl)
  change wpList _ _ _ _ _ wq.drew
  go_wp2_with fail
  refine (q_rcrash (quad2_below HB.out.quad (Below.refl _ _).drew) fa F fc (readsI_below HR.out (Below.refl _ _).drew) (fun a ha hne => .inl (HX.out.1.2 a ha hne).1)).mono ?_
  rintro e w4 ⟨rfl, h4, ho4⟩
  have hO4 : Only (fun j => ¬ (Y j ∨ j = C)) wq w4 := (Only.refl _ _).drew.more ho4
  have hrow4 : WRow w4 wp p q (.pointer (some ⟨l, 0, none⟩)) (.pointer (some ⟨x, 0, none⟩)) fr n := rowV_only HB.out.row hO4 fun hn => hn (.inl HY.out)
  have hset : ∀ (u v : Value), Only (fun j => j = wp) w4 ((w4.setCell ⟨wp, 2, none⟩ u).setCell ⟨wp, 3, none⟩ v) := fun u v => ((Only.refl (fun j => j = wp) w4).setCell (fun _ => rfl) u).setCell (fun _ => rfl) v
  have hbox4 : RowV w4 C 42 (act7C ⟨kind, an, am, lst, raw, F⟩ xa xc fa fc).toList := rowV_only HB.out.box hO4 fun hn => hn (.inr rfl)
  have hF4 : ReadsI w4 fa F := readsI_only HR.out hO4 fun a ha hne hn => hn (.inl (HX.out.1.2 a ha hne).1)
  have t2 := rowV_cell hrow4 2
  have t3 := rowV_cell hrow4 3
  have u2 := rowV_frozen hrow4 2
  have u3 := rowV_frozen hrow4 3
  simp only [List.getElem?_cons_zero, List.getElem?_cons_succ] at t2 t3
  have H4 := Lib.hid (And.intro h4 (And.intro hO4 (And.intro hrow4 (And.intro hset (And.intro hbox4 hF4)))))
  clear h4 ho4 hO4 hrow4 hset hbox4 hF4 r0 r1 r2 r3 s0 s1 s2 s3 s4 s5
  go_wp2_with fail
  generalize hw6 : World.setCell (World.setCell w4 _ _) _ _ = w6 at *
  have H6 := Lib.hid (show Only (fun j => j = wp) w4 w6 ∧ WRow w6 wp p q (.pointer none) (.pointer none) fr n by rw [← hw6]; exact ⟨H4.out.2.2.2.1 _ _, rowV_stored (rowV_stored H4.out.2.2.1 2 _) 3 _⟩)
  have hb6 : RowV w6 C 42 (act7C ⟨kind, an, am, lst, raw, F⟩ xa xc fa fc).toList := rowV_only H4.out.2.2.2.2.1 H6.out.1 fun e => HB.out.wpC.2.2 e.symm
  have hq6 : Quad2 w6 (fun j => Y j ∨ j = C) l x p q d (Dk.crash d F) g g := quad2_at H4.out.1 H6.out.1 fun j e => .inl (e ▸ HY.out)
  have hF6 : ReadsI w6 fa F := readsI_only H4.out.2.2.2.2.2 H6.out.1 fun a ha hne e => (HX.out.1.2 a ha hne).2 e
  have r0 : w6.cell? ⟨wp, 0, none⟩ = some (.pointer (some ⟨p, 0, none⟩)) := rowV_cell H6.out.2 0
  have s5 : w6.cell? ⟨C, 5, none⟩ = some (.slice fa F.length fc) := rowV_cell hb6 5
  have H7 := Lib.hid (And.intro hq6 (And.intro (rowV_lt H6.out.2) (And.intro (rowV_lt hb6) hF6)))
  clear hw6 hb6 hq6 hF6 t2 t3 u2 u3
  go_wp2_with fail
  go_region_held3 (fun wx => wx.cell? ⟨wp, 0, none⟩ = some (.pointer (some ⟨p, 0, none⟩)) ∧ wx.cell? ⟨C, 5, none⟩ = some (.slice fa F.length fc))
    (first
      | exact ⟨r0, s5⟩
      | exact ⟨stay ho8 H7.out.2.1 (.inl HY.out) r0, stay ho8 H7.out.2.2.1 (.inr rfl) s5⟩
      | exact ⟨wopt_row h9, (ho9.cell (p := ⟨C, 5, none⟩) (Nat.lt_of_lt_of_le H7.out.2.2.1 ho8.size) (fun e => HB.out.wpC.2.2 e.symm)).trans (stay ho8 H7.out.2.2.1 (.inr rfl) s5)⟩)
    (first
      | (go_at_call 23; refine (q_crash (quad2_below H7.out.1 (Below.refl _ _).drew) fa F fc (readsI_below H7.out.2.2.2 (Below.refl _ _).drew) (fun a ha hne => .inl (HX.out.1.2 a ha hne).1)).mono ?_; rintro e w8 ⟨rfl, h8, ho8⟩)
      | (go_at_call 11; refine (wworld_open (none_of H6.out.2 h8 ho8 HY.out) (.inl HY.out) HX.out.2.2 g.tail g.head).mono ?_; rintro e w9 ⟨rfl, h9, ho9⟩))
  have H9 := Lib.hid (And.intro h9 (And.intro ho9 ((Only.refl _ _).drew.more ho8)))
  clear h8 ho8 h9 ho9 r0 s5
  go_wp2_with fail
  go_ret
  obtain ⟨hE1, hE2⟩ := step_open HB.out ((H4.out.2.1.mono fun j _ hj => .inr hj).more ((H6.out.1.mono fun j _ e => .inl e).more (H9.out.2.2.mono fun j _ hj => .inr hj))) H9.out.1 H9.out.2.1 (bnd_none H.out.2.2 (crash_B d F).1 (crash_B d F).2)
  exact ⟨rfl, hE1, hE2⟩
end
end Go.Proofs.Ytednmncapfclfaa
