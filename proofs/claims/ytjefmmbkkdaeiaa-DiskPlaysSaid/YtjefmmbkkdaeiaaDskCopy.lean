/-
  Layer 4: what Copy does.
-/
import Derived.Test.YtjefmmbkkdaeiaaDskNew
import Derived.Test.YtjefmmbkkdaeiaaDskWrite
import Derived.Laws.Cover3
import Derived.Deep.RegionHeld3
import Derived.Sort.AtCall
namespace Go.Proofs.Ytjefmmbkkdaeiaa
open Go.RowKit

theorem wpList_run_append {P : Program} {ops : Array Oper} {rest : List Oper} {o : Oper} {a : Act} {w : World} {Q : Exit → Act → World → Prop} (hgd : o.guard = none) (s x : Operand) (t : TypeId)
    (ho : o.op = .call { callee := .builtin .append, args := #[s, x], argTypes := #[t, t] }) (v1 v2 : Value) (hs : a.eval s = v1) (hx : a.eval x = v2) (v' : Value) (w' : World) (hr : (Builtin.append_ #[t, t] o.type #[v1, v2]).run P w = .ok v' w')
    (h : wpList P ops Q rest (a.put o.dst v') w') : wpList P ops Q (o :: rest) a w :=
  wpList_plain hgd fun _ hK => wp_run_append s x t ho v1 v2 hs hx v' w' hr (hK _ _ h)
theorem eql_slice_nil {P : Program} (w : World) (t e0 : TypeId) (a : Addr) (l c : Nat) (h : P.underlying t = some (.slice e0)) : (binOp .eql t (.slice (some a) l c) (.slice none 0 0)).run P w = .ok (.bool false) w := by
  have e : binOp .eql t (.slice (some a) l c) (.slice none 0 0) = (do pure (Value.bool (← Op.equal t (.slice (some a) l c) (.slice none 0 0)))) := rfl
  rw [e, Sem.run_bind, run_equal_slice_nil w t e0 (some a) l c h]
  rfl
/-- what a clone of blocks is -/
def ClonePost (B : List ByteArray) (w : World) (e : Ending) (w' : World) : Prop :=
  ∃ g' c', e = .returned (.slice (some ⟨g', 0, none⟩) B.length c') ∧ BlocksAt w' g' c' B ∧ w.heap.size ≤ g' ∧ Below w.heap.size w w'

set_option maxRecDepth 100000 in
set_option maxHeartbeats 800000 in
theorem clone_any {w : World} {g c : Nat} {B : List ByteArray} (h : BlocksAt w g c B) (hz : ∀ b ∈ B, b.size = 512) (h1 : 1 ≤ B.length) (h2 : B.length ≤ 4096) :
    Calls Try.prog 34 #[.slice (some ⟨g, 0, none⟩) B.length c] w fun e w' => ClonePost B w e w' := by
  obtain ⟨i, hi, hi2⟩ := Option.map_eq_some_iff.1 info_block
  obtain ⟨i', hi', hi2'⟩ := Option.map_eq_some_iff.1 block_zero
  obtain rfl : i = i' := Option.some.inj (hi.symm.trans hi')
  simp only [Prod.mk.injEq] at hi2 hi2'
  have hk : ∀ b ∈ B, (bv b).length = 512 := fun b hb => by rw [bv_len]; exact hz b hb
  have hlen := flat_len bv 512 B hk
  obtain ⟨r, hr, _⟩ := h
  have hgl := rowV_lt hr
  have hcs : (Value.agg (bv Dk.zeros).toArray).cells.size = 512 := by show (bv Dk.zeros).toArray.size = 512; rw [List.size_toArray, bv_len, Dk.zeros_size]
  have hne : rowV_alloc hr (.cells #[] 67) = rowV_alloc hr (.cells #[] 67) := rfl
  have hr2 := rowV_alloc hr (.cells #[] 67)
  obtain ⟨v', w', hrun, ho, hgr⟩ := run_append_arg_grows (P := Try.prog) (w.alloc (.cells #[] 67)) 52 52 67 i _ 512 512 Try.underlying52 hi hi2'.1 hi2.2.1 hi2.2.2 hcs (by omega) ⟨w.heap.size, 0, none⟩ 0 0 [] (by simp) (by intro j u hj; simp at hj)
    ⟨g, 0, none⟩ B.length c (B.flatMap bv) hlen (fun j u hj => by
      have hlt := (List.getElem?_eq_some_iff.1 hj).1
      rw [Addr.add_mid, Nat.zero_add, rowV_cell hr2, List.getElem?_append_left hlt]; exact hj) (by omega) (by unfold maxLen; omega) (by omega)
  have hb : Below w.heap.size w w' := ((Below.refl _ w).alloc (Nat.le_refl _) (.cells #[] 67)).grown hgr (by simp) (by intro k e; cases e)
  have hpost : ∃ g' c', v' = .slice (some ⟨g', 0, none⟩) B.length c' ∧ BlocksAt w' g' c' B ∧ w.heap.size ≤ g' := by
    rcases ho.2 with ⟨_, h0⟩ | ⟨g', cap', cur, rfl, hbg, hh, u1, u2, u3, u4⟩
    · omega
    · refine ⟨g', cap', by rw [Nat.zero_add], ⟨cur.toList.drop (B.length * 512), ?_, by omega, u2⟩, by simp at hbg; omega⟩
      rw [Nat.zero_add, List.nil_append] at u4
      rw [← u4, List.take_append_drop]
      exact hh
  obtain ⟨g', c', rfl, hB, hg'⟩ := hpost
  have HP := Lib.hid (And.intro hB (And.intro hg' (And.intro hb hrun)))
  clear hi hi2 hi' hi2' hk hlen hr hgl hcs hne hr2 hrun ho hgr hb hB hg' h1 h2 hz
  have hq := fun w0 => eql_slice_nil (P := Try.prog) w0 52 67 ⟨g, 0, none⟩ B.length c Try.underlying52
  go_enter Try.func34, Try.ntmps34
  go_wp2_with (at_builtin; go_loud (refine wpList_run_append rfl (.tmp 5) (.tmp 6) 52 rfl _ _ rfl rfl _ _ HP.out.2.2.2 ?_))
  go_ret
  exact ⟨_, _, rfl, HP.out.1, HP.out.2.1, HP.out.2.2.1⟩

/-- what Copy answers -/
def CopyPost (d : Dk.D) (w : World) (e : Ending) (w' : World) : Prop := ∃ p', e = .returned (.pointer (some ⟨p', 0, none⟩)) ∧ DiskAt w' (fun k => w.heap.size ≤ k) p' d ∧ Below w.heap.size w w'

theorem copy_disk {w w2 : World} {S : Nat → Prop} {p gn gk cn ck cap g1 c1 g2 c2 : Nat} {la : Option Addr} {d : Dk.D} (h : DiskIn w S p gn gk cn ck la cap d) (hb : Below w.heap.size w w2) (h1 : BlocksAt w2 g1 c1 (Dk.over d.B d.W)) (h2 : BlocksAt w2 g2 c2 d.B) (n1 : w.heap.size ≤ g1) (n2 : w.heap.size ≤ g2) (hne : g2 ≠ g1) :
    DiskAt (w2.alloc (.cells #[.slice (some ⟨g1, 0, none⟩) d.B.length c1, .slice (some ⟨g2, 0, none⟩) d.B.length c2, .slice la d.W.length d.W.length, .int .i64 d.fuse, .bool d.gone] 55)) (fun k => w.heap.size ≤ k) w2.heap.size d := by
  have ho : ∀ F : Nat → Prop, Only F w2 (w2.alloc (.cells #[.slice (some ⟨g1, 0, none⟩) d.B.length c1, .slice (some ⟨g2, 0, none⟩) d.B.length c2, .slice la d.W.length d.W.length, .int .i64 d.fuse, .bool d.gone] 55)) := fun F => (Only.refl F w2).alloc _
  obtain ⟨r1, hr1, _⟩ := h1
  obtain ⟨r2, hr2, _⟩ := h2
  have l1 := rowV_lt hr1
  have l2 := rowV_lt hr2
  have hz := hb.size
  refine ⟨g1, g2, c1, c2, la, d.W.length, ⟨h.ok, rowV_new w2 _ [_, _, _, _, _], blocksAt_only ⟨r1, hr1, by assumption⟩ (ho fun _ => False) (fun h => h), blocksAt_only ⟨r2, hr2, by assumption⟩ (ho fun _ => False) (fun h => h), ?_, by omega, by omega, hne, hz, n1, n2⟩⟩
  rcases h.loose with ⟨e1, _, e3⟩ | ⟨g, r, e1, e2, e3, e4, e5, _⟩
  · exact .inl ⟨e1, by rw [e3]; rfl, e3⟩
  · have lg := rowV_lt e2
    exact .inr ⟨g, r, e1, rowV_only (rowV_below e2 hb lg) (ho fun _ => False) (fun h => h), Nat.le_refl _, Nat.le_trans e3 e4, by omega, by omega, by omega, fun h => absurd h (Nat.lt_irrefl _)⟩
theorem diskIn_drew {w : World} {S : Nat → Prop} {p gn gk cn ck cap : Nat} {la : Option Addr} {d : Dk.D} (h : DiskIn w S p gn gk cn ck la cap d) : DiskIn w.drew S p gn gk cn ck la cap d :=
  diskIn_only h ((Only.refl (fun _ => False) w).drew) (fun h => h) (fun h => h) (fun h => h) (fun _ _ h => h)

set_option maxRecDepth 100000 in
set_option maxHeartbeats 3200000 in
theorem copy_any {w : World} {S : Nat → Prop} {p gn gk cn ck cap : Nat} {la : Option Addr} {d : Dk.D} (h : DiskIn w S p gn gk cn ck la cap d) :
    Calls Try.prog 19 #[.pointer (some ⟨p, 0, none⟩)] w fun e w' => CopyPost d w e w' := by
  have cn0 := none_any h.head h.ok
  have k0 := head_now h.head
  have k1 := head_kept h.head
  have k2 := head_loose h.head
  have k3 := head_left h.head
  have k4 := head_gone h.head
  have lp := rowV_lt h.head
  have hS : ∀ wx, Below w.heap.size w wx → wx.cell? ⟨p, 0, none⟩ = some (.slice (some ⟨gn, 0, none⟩) d.B.length cn) ∧ wx.cell? ⟨p, 1, none⟩ = some (.slice (some ⟨gk, 0, none⟩) d.B.length ck) ∧ wx.cell? ⟨p, 2, none⟩ = some (.slice la d.W.length cap) ∧ wx.cell? ⟨p, 3, none⟩ = some (.int .i64 d.fuse) ∧ wx.cell? ⟨p, 4, none⟩ = some (.bool d.gone) ∧ Hid (Below w.heap.size w wx) := fun wx hb =>
    ⟨(hb.cell (p := ⟨p, 0, none⟩) lp).trans k0, (hb.cell (p := ⟨p, 1, none⟩) lp).trans k1, (hb.cell (p := ⟨p, 2, none⟩) lp).trans k2, (hb.cell (p := ⟨p, 3, none⟩) lp).trans k3, (hb.cell (p := ⟨p, 4, none⟩) lp).trans k4, Lib.hid hb⟩
  have hC1 : ∀ wx, (wx.cell? ⟨p, 0, none⟩ = some (.slice (some ⟨gn, 0, none⟩) d.B.length cn) ∧ wx.cell? ⟨p, 1, none⟩ = some (.slice (some ⟨gk, 0, none⟩) d.B.length ck) ∧ wx.cell? ⟨p, 2, none⟩ = some (.slice la d.W.length cap) ∧ wx.cell? ⟨p, 3, none⟩ = some (.int .i64 d.fuse) ∧ wx.cell? ⟨p, 4, none⟩ = some (.bool d.gone) ∧ Hid (Below w.heap.size w wx)) → Calls Try.prog 34 #[.slice (some ⟨gn, 0, none⟩) d.B.length cn] wx fun e w' => ∃ g c, e = .returned (.slice (some ⟨g, 0, none⟩) d.B.length c) ∧ BlocksAt w' g c (Dk.over d.B d.W) ∧ wx.heap.size ≤ g ∧ Below wx.heap.size wx w' ∧ Below w.heap.size w w' := fun wx hs => by
    have hb := hs.2.2.2.2.2.out
    obtain ⟨r, hr, hc⟩ := h.now
    have lr := rowV_lt hr
    have hc := clone_any (w := wx) (g := gn) (c := cn) (B := Dk.over d.B d.W) ⟨r, rowV_below hr hb lr, hc⟩ (Dk.over_ok h.ok.size h.ok.loose) (by rw [Dk.over_len]; exact h.ok.pos) (by rw [Dk.over_len]; exact h.ok.most)
    unfold ClonePost at hc
    rw [Dk.over_len] at hc
    exact hc.mono fun e w' ⟨g, c, h1, h2, h3, h4⟩ => ⟨g, c, h1, h2, h3, h4, hb.trans (h4.mono hb.size)⟩
  have hC2 : ∀ wx, (wx.cell? ⟨p, 0, none⟩ = some (.slice (some ⟨gn, 0, none⟩) d.B.length cn) ∧ wx.cell? ⟨p, 1, none⟩ = some (.slice (some ⟨gk, 0, none⟩) d.B.length ck) ∧ wx.cell? ⟨p, 2, none⟩ = some (.slice la d.W.length cap) ∧ wx.cell? ⟨p, 3, none⟩ = some (.int .i64 d.fuse) ∧ wx.cell? ⟨p, 4, none⟩ = some (.bool d.gone) ∧ Hid (Below w.heap.size w wx)) → Calls Try.prog 34 #[.slice (some ⟨gk, 0, none⟩) d.B.length ck] wx fun e w' => ∃ g c, e = .returned (.slice (some ⟨g, 0, none⟩) d.B.length c) ∧ BlocksAt w' g c d.B ∧ wx.heap.size ≤ g ∧ Below wx.heap.size wx w' ∧ Below w.heap.size w w' := fun wx hs => by
    have hb := hs.2.2.2.2.2.out
    obtain ⟨r, hr, hc⟩ := h.kept
    have lr := rowV_lt hr
    exact (clone_any (w := wx) (g := gk) (c := ck) (B := d.B) ⟨r, rowV_below hr hb lr, hc⟩ h.ok.size h.ok.pos h.ok.most).mono fun e w' ⟨g, c, h1, h2, h3, h4⟩ => ⟨g, c, h1, h2, h3, h4, hb.trans (h4.mono hb.size)⟩
  have hla : ∃ ob, la = ob := ⟨_, rfl⟩
  have hsp : ∀ a, la = some a → ∃ g, a = ⟨g, 0, none⟩ := by
    rintro a rfl
    rcases h.loose with ⟨e1, _⟩ | ⟨g, r, e1, _⟩
    · cases e1
    · cases e1; exact ⟨g, rfl⟩
  have hw : d.W.length ≤ cap := by
    rcases h.loose with ⟨_, e2, e3⟩ | ⟨g, r, _, _, e3, _⟩
    · rw [e3]; simp
    · exact e3
  have hw0 : la = none → d.W.length = 0 := by
    rintro rfl
    rcases h.loose with ⟨_, e2, e3⟩ | ⟨g, r, e1, _⟩
    · rw [e3]; rfl
    · cases e1
  have b1 : (0 : Int) ≤ (d.W.length : Int) := by omega
  have b2 : (d.W.length : Int) ≤ (cap : Int) := by omega
  have HH := Lib.hid (And.intro h (And.intro cn0 (And.intro hS (And.intro hC1 hC2))))
  clear h cn0 hS hC1 hC2 k0 k1 k2 k3 k4 lp hla hw
  have hSd := HH.out.2.2.1 w.drew ((Below.refl _ _).drew)
  obtain ⟨d0, d1, d2, d3, d4, d5⟩ := hSd
  cases la with
  | none =>
    have hz0 : d.W.length = 0 := hw0 rfl
    clear hsp hw0
    go_enter Try.func19, Try.ntmps19
    go_wp2_with fail
    refine HH.out.2.1.mono ?_
    rintro e w0 ⟨rfl, hw0⟩
    obtain rfl := hw0.symm
    clear hw0
    go_wp2_with fail
    go_region_held3 (fun wx => wx.cell? ⟨p, 0, none⟩ = some (.slice (some ⟨gn, 0, none⟩) d.B.length cn) ∧ wx.cell? ⟨p, 1, none⟩ = some (.slice (some ⟨gk, 0, none⟩) d.B.length ck) ∧ wx.cell? ⟨p, 2, none⟩ = some (.slice none d.W.length cap) ∧ wx.cell? ⟨p, 3, none⟩ = some (.int .i64 d.fuse) ∧ wx.cell? ⟨p, 4, none⟩ = some (.bool d.gone) ∧ Hid (Below w.heap.size w wx))
      (first
        | exact ⟨d0, d1, d2, d3, d4, d5⟩
        | exact HH.out.2.2.1 _ hs1
        | exact HH.out.2.2.1 _ hs2
        | exact HH.out.2.2.1 _ (hs2.alloc hs2.size _))
      (first
        | (go_at_call_has 34 (Value.slice (some ⟨gn, 0, none⟩) d.B.length cn); refine (HH.out.2.2.2.1 _ (by assumption)).mono ?_; rintro e w1 ⟨g1, c1, rfl, h1, l1, hb1, hs1⟩)
        | (go_at_call 34; refine (HH.out.2.2.2.2 _ (by assumption)).mono ?_; rintro e w2 ⟨g2, c2, rfl, h2, l2, hb2, hs2⟩))
    have HQ := Lib.hid (And.intro h1 (And.intro h2 (And.intro l1 (And.intro l2 (And.intro hb1 (And.intro hb2 (And.intro hs1 hs2)))))))
    clear h1 h2 l1 l2 hb1 hb2 hs1 hs2 d0 d1 d2 d3 d4 d5
    go_wp2_with fail
    go_ret
    obtain ⟨h1, h2, l1, l2, hb1, hb2, hs1, hs2⟩ := HQ.out
    obtain ⟨r, hr, hc⟩ := h1
    have lr := rowV_lt hr
    have e := copy_disk HH.out.1 hs2 ⟨r, rowV_below hr hb2 lr, hc⟩ h2 l1 (Nat.le_trans hs1.size l2) (by omega)
    rw [hz0] at e
    exact ⟨_, rfl, e, hs2.alloc hs2.size _⟩
  | some a =>
    obtain ⟨g, rfl⟩ := hsp a rfl
    clear hsp hw0
    go_enter Try.func19, Try.ntmps19
    go_wp2_with fail
    refine HH.out.2.1.mono ?_
    rintro e w0 ⟨rfl, hw0⟩
    obtain rfl := hw0.symm
    clear hw0
    go_wp2_with fail
    go_region_held3 (fun wx => wx.cell? ⟨p, 0, none⟩ = some (.slice (some ⟨gn, 0, none⟩) d.B.length cn) ∧ wx.cell? ⟨p, 1, none⟩ = some (.slice (some ⟨gk, 0, none⟩) d.B.length ck) ∧ wx.cell? ⟨p, 2, none⟩ = some (.slice (some ⟨g, 0, none⟩) d.W.length cap) ∧ wx.cell? ⟨p, 3, none⟩ = some (.int .i64 d.fuse) ∧ wx.cell? ⟨p, 4, none⟩ = some (.bool d.gone) ∧ Hid (Below w.heap.size w wx))
      (first
        | exact ⟨d0, d1, d2, d3, d4, d5⟩
        | exact HH.out.2.2.1 _ hs1
        | exact HH.out.2.2.1 _ hs2
        | exact HH.out.2.2.1 _ (hs2.alloc hs2.size _))
      (first
        | (go_at_call_has 34 (Value.slice (some ⟨gn, 0, none⟩) d.B.length cn); refine (HH.out.2.2.2.1 _ (by assumption)).mono ?_; rintro e w1 ⟨g1, c1, rfl, h1, l1, hb1, hs1⟩)
        | (go_at_call 34; refine (HH.out.2.2.2.2 _ (by assumption)).mono ?_; rintro e w2 ⟨g2, c2, rfl, h2, l2, hb2, hs2⟩))
    have HQ := Lib.hid (And.intro h1 (And.intro h2 (And.intro l1 (And.intro l2 (And.intro hb1 (And.intro hb2 (And.intro hs1 hs2)))))))
    clear h1 h2 l1 l2 hb1 hb2 hs1 hs2 d0 d1 d2 d3 d4 d5
    go_wp2_with fail
    go_ret
    obtain ⟨h1, h2, l1, l2, hb1, hb2, hs1, hs2⟩ := HQ.out
    obtain ⟨r, hr, hc⟩ := h1
    have lr := rowV_lt hr
    exact ⟨_, rfl, copy_disk HH.out.1 hs2 ⟨r, rowV_below hr hb2 lr, hc⟩ h2 l1 (Nat.le_trans hs1.size l2) (by omega), hs2.alloc hs2.size _⟩
end Go.Proofs.Ytjefmmbkkdaeiaa
