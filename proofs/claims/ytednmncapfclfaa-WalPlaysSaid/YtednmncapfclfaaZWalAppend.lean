/-
  Layer 7: the program's Append.
-/
import Derived.Test.YtednmncapfclfaaZWalTrim
namespace Go.Proofs.Ytednmncapfclfaa
open Go.RowKit
theorem Wl.app_big {d : Dk.D} {g : Wl.Lg} {lst : List ByteArray} (h : lst.any Wl.big = true) : Wl.appE d g lst = 5 ∧ Wl.appD d g lst = d ∧ Wl.appG d g lst = g := by
  have e : Wl.appE d g lst = 5 := by unfold Wl.appE; rw [if_pos h]
  exact ⟨e, by unfold Wl.appD; rw [if_pos h], by unfold Wl.appG; rw [if_neg (by rw [e]; decide)]⟩
theorem Wl.app_full {d : Dk.D} {g : Wl.Lg} {lst : List ByteArray} (h : ¬ lst.any Wl.big = true) (h2 : g.n - g.L.length < lst.length) : Wl.appE d g lst = 8 ∧ Wl.appD d g lst = d ∧ Wl.appG d g lst = g := by
  have e : Wl.appE d g lst = 8 := by unfold Wl.appE; rw [if_neg h, if_pos h2]
  exact ⟨e, by unfold Wl.appD; rw [if_neg h, if_pos h2], by unfold Wl.appG; rw [if_neg (by rw [e]; decide)]⟩
theorem Wl.app_run {d : Dk.D} {g : Wl.Lg} {lst : List ByteArray} (h : ¬ lst.any Wl.big = true) (h2 : ¬ g.n - g.L.length < lst.length) : Wl.appE d g lst = (Wl.run d g.fr g.n g.head lst).2 ∧ Wl.appD d g lst = (Wl.run d g.fr g.n g.head lst).1 ∧ ((Wl.run d g.fr g.n g.head lst).2 ≠ 0 → Wl.appG d g lst = g) ∧ ((Wl.run d g.fr g.n g.head lst).2 = 0 → Wl.appG d g lst = { g with head := g.head + lst.length, L := g.L ++ lst }) := by
  have e : Wl.appE d g lst = (Wl.run d g.fr g.n g.head lst).2 := by unfold Wl.appE; rw [if_neg h, if_neg h2]
  exact ⟨e, by unfold Wl.appD; rw [if_neg h, if_neg h2], fun h0 => by unfold Wl.appG; rw [if_neg (by rw [e]; exact h0)], fun h0 => by unfold Wl.appG; rw [if_pos (by rw [e]; exact h0)]⟩
theorem big_not {lst : List ByteArray} (h : lst.any Wl.big = false) (k : Nat) (hk : k < lst.length) : lst[k].size ≤ 490 := by
  have h1 : Wl.big lst[k] = false := by
    cases hb : Wl.big lst[k] with
    | false => rfl
    | true => rw [any_mem lst k hk hb] at h; cases h
  unfold Wl.big at h1
  have := of_decide_eq_false h1
  omega
/-- what an Append leaves -/
def AppP (T : Nat) (D : World → (Nat → Prop) → Dk.D → Prop) (X S : Nat → Prop) (l p : Nat) (g' : Wl.Lg) (d' : Dk.D) (w w' : World) : Prop :=
  ∃ Y : Nat → Prop, (∀ k, Y k → w.heap.size ≤ k ∧ k < w'.heap.size) ∧ D w' (fun k => X k ∨ Y k) d' ∧ LogAt T w' (fun k => S k ∨ Y k) l p g' ∧ Only (fun k => ¬ X k ∨ S k) w w'
section
variable {w : World} {X S : Nat → Prop} {l p : Nat} {d : Dk.D} {D : World → (Nat → Prop) → Dk.D → Prop} {g : Wl.Lg}
/-- nothing is written -/
theorem appP_none {T : Nat} {w' : World} (K : DskP p D) (h : D w X d) (hl : LogAt T w S l p g) (hb : Below w.heap.size w w') : AppP T D X S l p g d w w' :=
  ⟨fun _ => False, fun _ h => h.elim, K.less (K.below h hb) fun _ h => h.elim id False.elim, logAt_mono (logAt_below hl hb) fun _ _ h => .inl h, Only.of_none hb⟩
/-- the disk is written alone -/
theorem appP_disk {T : Nat} {w' : World} {d' : Dk.D} (K : DskP p D) (h : D w' X d') (hl : LogAt T w S l p g) (hX : ∀ k, S k → X k) (ho : Only (fun k => ¬ X k) w w') : AppP T D X S l p g d' w w' :=
  ⟨fun _ => False, fun _ h => h.elim, K.less h fun _ h => h.elim id False.elim, logAt_mono (logAt_only hl ho fun k _ hs hn => hn (hX k hs)) fun _ _ h => .inl h, ho.mono fun _ _ h => .inl h⟩
set_option maxRecDepth 100000 in
set_option maxHeartbeats 1600000 in
theorem wappend_no (K : DskP p D) (h : D w X d) (hl : LogAt 63 w S l p g) (hg : Wl.Good d.B.length g) (hh : g.head ≤ 1125900000000000) (ad : Option Addr) (lst : List ByteArray) (c : Nat) (hr : ReadsS w ad lst) (hlen : lst.length ≤ 1000) (hno : lst.any Wl.big = true ∨ g.n - g.L.length < lst.length) :
    Calls Try.prog 20 #[.pointer (some ⟨l, 0, none⟩), .slice ad lst.length c] w fun e w' => e = .returned (.int .i64 (Wl.appE d g lst)) ∧ AppP 63 D X S l p (Wl.appG d g lst) (Wl.appD d g lst) w w' := by
  have hm := (K.ok h).most
  have cC := wcontains_any ad lst c hr (by omega)
  have cR := wroom_any hl hg hm hh
  have cN : Calls Try.prog 34 #[.pointer (some ⟨l, 0, none⟩)] w fun e w' => e = .returned (.bool false) ∧ w' = w := by
    obtain ⟨la, cap, h1, _⟩ := hl
    exact wnone_any h1
  have hP : ∀ w', Below w.heap.size w w' → AppP 63 D X S l p g d w w' := fun w' hb => appP_none K h hl hb
  by_cases hb : lst.any Wl.big = true
  · obtain ⟨e1, e2, e3⟩ := Wl.app_big (d := d) (g := g) hb
    rw [e1, e2, e3]
    rw [hb] at cC
    have H := Lib.hid (And.intro cN (And.intro cC hP))
    clear cN cC hP cR hb e1 e2 e3 h hl hg hr hno
    go_enter Try.func20, Try.ntmps20
    go_wp2_with fail
    refine H.out.1.mono ?_
    rintro e w1 ⟨rfl, hw1⟩
    obtain rfl := hw1.symm; clear hw1
    go_wp2_with fail
    refine H.out.2.1.mono ?_
    rintro e w1 ⟨rfl, hw1⟩
    obtain rfl := hw1.symm; clear hw1
    go_wp2_with fail
    go_ret
    exact ⟨rfl, H.out.2.2 _ (Below.refl _ _)⟩
  · have hf := hno.resolve_left hb
    obtain ⟨e1, e2, e3⟩ := Wl.app_full (d := d) (g := g) hb hf
    rw [e1, e2, e3]
    rw [show lst.any Wl.big = false by cases h : lst.any Wl.big with | false => rfl | true => exact absurd h hb] at cC
    have H := Lib.hid (And.intro cN (And.intro cC (And.intro hP cR)))
    clear cN cC hP cR hb e1 e2 e3 h hl hg hr hno
    generalize g.n - g.L.length = r at *
    go_enter Try.func20, Try.ntmps20
    go_wp2_with fail
    refine H.out.1.mono ?_
    rintro e w1 ⟨rfl, hw1⟩
    obtain rfl := hw1.symm; clear hw1
    go_wp2_with fail
    refine H.out.2.1.mono ?_
    rintro e w1 ⟨rfl, hw1⟩
    obtain rfl := hw1.symm; clear hw1
    go_wp2_with fail
    refine H.out.2.2.2.mono ?_
    rintro e w2 ⟨rfl, hb2⟩
    have H2 := Lib.hid hb2
    clear hb2
    go_wp2_with fail
    go_ret
    exact ⟨rfl, H.out.2.2.1 _ H2.out⟩
set_option maxRecDepth 100000 in
set_option maxHeartbeats 4000000 in
theorem wappend_yes (K : DskP p D) (h : D w X d) (hl : LogAt 63 w S l p g) (hX : ∀ k, S k → X k) (hg : Wl.Good d.B.length g) (ad : Option Addr) (lst : List ByteArray) (c : Nat) (hr : ReadsS w ad lst) (had : ∀ a, ad = some a → lst ≠ [] → X a.block) (hlen : lst.length ≤ 1000)
    (hh : g.head + lst.length ≤ 1125900000000000) (hW : d.W.length + lst.length ≤ 1000000) (hb : lst.any Wl.big = false) (hroom : ¬ g.n - g.L.length < lst.length) :
    Calls Try.prog 20 #[.pointer (some ⟨l, 0, none⟩), .slice ad lst.length c] w fun e w' => e = .returned (.int .i64 (Wl.appE d g lst)) ∧ AppP 63 D X S l p (Wl.appG d g lst) (Wl.appD d g lst) w w' := by
  obtain ⟨i0, hi0, hz0, hz1, hz2⟩ := info_parts info_str
  have hm := (K.ok h).most
  have cC := wcontains_any ad lst c hr (by omega)
  rw [hb] at cC
  have cR := wroom_any hl hg hm (by omega)
  obtain ⟨e1, e2, e3, e4⟩ := Wl.app_run (d := d) (g := g) (by rw [hb]; exact Bool.false_ne_true) hroom
  rw [e1, e2]
  have hl0 := hl
  obtain ⟨la, cap, h1, h2, h3⟩ := hl
  have hXl := hX l h3
  have cN := wnone_any h1
  have hfit := hg.fits
  have hpos := hg.pos
  have hLn := hg.room
  obtain ⟨fr, n, tail, head, L⟩ := g
  dsimp only at *
  have hrX : ∀ wx, Only (fun j => ¬ X j) w wx → ReadsS wx ad lst := fun wx ho i hi => by
    obtain ⟨b, off, e, hc⟩ := hr i hi
    exact ⟨b, off, e, (ho.cell (World.block_lt_of_cell? w _ hc) (show ¬ ¬ X b from fun hn => hn (had _ e (by intro e0; rw [e0] at hi; simp at hi)))).trans hc⟩
  have cW : ∀ k (hk : k < lst.length) wx, D wx X (Wl.run d fr n head (lst.take k)).1 → Calls Try.prog 42 #[.agg #[.pointer (some ⟨p, 0, none⟩), .int .i64 (fr : Int), .int .i64 (n : Int)], .int .i64 ((head + k : Nat) : Int), .string lst[k]] wx fun e w' => e = .returned (.int .i64 (Wl.stepE (Wl.run d fr n head (lst.take k)).1 fr n (head + k) lst[k])) ∧ D w' X (Wl.stepD (Wl.run d fr n head (lst.take k)).1 fr n (head + k) lst[k]) ∧ Only (fun j => ¬ X j) wx w' := fun k hk wx hx => by
    refine wwrite_any K hx fr n (head + k) hpos (by omega) (by omega) lst[k] (big_not hb k hk) ?_
    have := Wl.run_W (fr := fr) (n := n) (lst.take k) d head
    rw [List.length_take] at this; omega
  have hnx := fun k hk => Wl.run_next (fr := fr) (n := n) lst d head k hk
  have H := Lib.hid (And.intro cN (And.intro cC (And.intro cR (And.intro h1 (And.intro h2 h3)))))
  have HW := Lib.hid (And.intro cW (And.intro hnx (And.intro hrX (And.intro e3 e4))))
  have HD := Lib.hid (And.intro h (And.intro hl0 (And.intro hX hXl)))
  have hr2 : lst.length ≤ n - L.length := by omega
  have hn4 : n ≤ 4096 := by omega
  clear cN cC cR h1 h2 h3 cW hnx hrX e1 e2 e3 e4 h hl0 hX hXl hg hr had hb hroom hfit hpos hm hW
  obtain ⟨r, hrr⟩ : ∃ r, r = n - L.length := ⟨_, rfl⟩
  rw [← hrr] at H hr2
  have HRR := Lib.hid (And.intro hrr (And.intro hLn (And.intro hr2 hn4)))
  have t14 : decide (r < lst.length) = false := decide_eq_false (by omega)
  clear hrr hLn hr2 hn4
  go_enter Try.func20, Try.ntmps20
  go_wp2_with fail
  refine H.out.1.mono ?_
  rintro e w1 ⟨rfl, hw1⟩
  obtain rfl := hw1.symm; clear hw1
  go_wp2_with fail
  refine H.out.2.1.mono ?_
  rintro e w1 ⟨rfl, hw1⟩
  obtain rfl := hw1.symm; clear hw1
  go_wp2_with fail
  refine H.out.2.2.1.mono ?_
  rintro e w2 ⟨rfl, hb2⟩
  have H2 := Lib.hid hb2
  clear hb2
  go_wp2_with fail
  go_loopw [22] (fun i wr => ∃ k : Nat, k ≤ lst.length ∧ i = .int .i64 (k : Int) ∧ Hid ((Wl.run d fr n head (lst.take k)).2 = 0 ∧ D wr X (Wl.run d fr n head (lst.take k)).1 ∧ Only (fun j => ¬ X j) w wr)) (fun i _ => lst.length - (intOf i).toNat)
  case atStart => exact ⟨0, Nat.zero_le _, rfl, Lib.hid ⟨rfl, K.below HD.out.1 H2.out, Only.of_none H2.out⟩⟩
  case round =>
    obtain ⟨k, hk, rfl, HK⟩ := hrel
    have hrow : RowV wr l 63 (lgC p ⟨fr, n, tail, head, L⟩ la cap) := rowV_only H.out.2.2.2.1 HK.out.2.2 fun hn => hn HD.out.2.2.2
    by_cases hlt : k < lst.length
    · obtain ⟨b, off, rfl, hc⟩ := HW.out.2.2.1 wr HK.out.2.2 k hlt
      have cW := fun wx => HW.out.1 k hlt wx
      have hnx := HW.out.2.1 k hlt HK.out.1
      have HKD := Lib.hid HK.out.2
      clear HK
      generalize Wl.stepE (Wl.run d fr n head (lst.take k)).1 fr n (head + k) lst[k] = E at *
      generalize Wl.stepD (Wl.run d fr n head (lst.take k)).1 fr n (head + k) lst[k] = DD at *
      generalize lst[k] = x at *
      have c0 := rowV_cell hrow 0
      have c1 := rowV_cell hrow 1
      have c2 := rowV_cell hrow 2
      have c4 := rowV_cell hrow 4
      simp only [List.getElem?_cons_zero, List.getElem?_cons_succ] at c0 c1 c2 c4
      have hs : IntKind.i64.wrap ((head : Int) + (k : Int)) = ((head + k : Nat) : Int) := by rw [IntWalk.i64_in _ (by omega)]; omega
      obtain ⟨hd, hhd⟩ : ∃ m : Nat, m = head + k := ⟨_, rfl⟩
      rw [← hhd] at hs cW
      have HC := Lib.hid (And.intro cW (And.intro hnx (rowV_lt hrow)))
      clear cW hnx hhd hrow
      by_cases hE : E = 0
      · have q : (E != 0) = false := by rw [hE]; rfl
        have HE := Lib.hid hE
        clear hE
        go_wp2_with fail
        go_region_held3 (fun wx => wx.cell? ⟨l, 0, none⟩ = some (.pointer (some ⟨p, 0, none⟩)) ∧ wx.cell? ⟨l, 1, none⟩ = some (.int .i64 (fr : Int)) ∧ wx.cell? ⟨l, 2, none⟩ = some (.int .i64 (n : Int)) ∧ wx.cell? ⟨l, 4, none⟩ = some (.int .i64 (head : Int)))
          (first
            | exact ⟨c0, c1, c2, c4⟩
            | exact ⟨(ho4.cell (p := ⟨l, 0, none⟩) HC.out.2.2 (fun hn => hn HD.out.2.2.2)).trans c0, (ho4.cell (p := ⟨l, 1, none⟩) HC.out.2.2 (fun hn => hn HD.out.2.2.2)).trans c1, (ho4.cell (p := ⟨l, 2, none⟩) HC.out.2.2 (fun hn => hn HD.out.2.2.2)).trans c2, (ho4.cell (p := ⟨l, 4, none⟩) HC.out.2.2 (fun hn => hn HD.out.2.2.2)).trans c4⟩)
          ((go_at_call 42; refine (HC.out.1 _ (K.below HKD.out.1 (Below.refl _ _).drew)).mono ?_; rintro e w4 ⟨rfl, h4, ho4⟩))
        have H4 := Lib.hid (And.intro h4 (HKD.out.2.more ((Only.refl _ _).drew.more ho4)))
        clear h4 ho4 c0 c1 c2 c4
        go_wp2_with fail
        exact ⟨⟨k + 1, by omega, by go_num, Lib.hid (by rw [HC.out.2.1.1]; exact ⟨HE.out, H4.out.1, H4.out.2⟩)⟩, by simp [intOf]; omega⟩
      · have q : (E != 0) = true := by simpa using hE
        have HE := Lib.hid hE
        clear hE
        go_wp2_with fail
        go_region_held3 (fun wx => wx.cell? ⟨l, 0, none⟩ = some (.pointer (some ⟨p, 0, none⟩)) ∧ wx.cell? ⟨l, 1, none⟩ = some (.int .i64 (fr : Int)) ∧ wx.cell? ⟨l, 2, none⟩ = some (.int .i64 (n : Int)) ∧ wx.cell? ⟨l, 4, none⟩ = some (.int .i64 (head : Int)))
          (first
            | exact ⟨c0, c1, c2, c4⟩
            | exact ⟨(ho4.cell (p := ⟨l, 0, none⟩) HC.out.2.2 (fun hn => hn HD.out.2.2.2)).trans c0, (ho4.cell (p := ⟨l, 1, none⟩) HC.out.2.2 (fun hn => hn HD.out.2.2.2)).trans c1, (ho4.cell (p := ⟨l, 2, none⟩) HC.out.2.2 (fun hn => hn HD.out.2.2.2)).trans c2, (ho4.cell (p := ⟨l, 4, none⟩) HC.out.2.2 (fun hn => hn HD.out.2.2.2)).trans c4⟩)
          ((go_at_call 42; refine (HC.out.1 _ (K.below HKD.out.1 (Below.refl _ _).drew)).mono ?_; rintro e w4 ⟨rfl, h4, ho4⟩))
        have H4 := Lib.hid (And.intro h4 (HKD.out.2.more ((Only.refl _ _).drew.more ho4)))
        clear h4 ho4 c0 c1 c2 c4
        go_wp2_with fail
        go_ret
        have hrun := HC.out.2.1.2 HE.out
        rw [HW.out.2.2.2.1 (by rw [hrun]; exact HE.out), hrun]
        exact ⟨rfl, appP_disk K H4.out.1 HD.out.2.1 HD.out.2.2.1 H4.out.2⟩
    · obtain rfl : k = lst.length := by omega
      have hK := HK.out
      rw [List.take_length] at hK
      obtain ⟨k1, k2, k3⟩ := hK
      have e4 := HW.out.2.2.2.2 k1
      have hrd := HW.out.2.2.1 wr k3
      have hrec : RecAt wr S (fun x => x = l) la cap L := recAt_only H.out.2.2.2.2.1 k3 fun j _ hs hn => hn (HD.out.2.2.1 j hs)
      clear HK
      have c5 : wr.cell? ⟨l, 5, none⟩ = some (.slice la L.length cap) := rowV_cell hrow 5
      have HQ := Lib.hid (And.intro k2 (And.intro k3 (And.intro hrd (And.intro hrec (And.intro hrow (And.intro e4 k1))))))
      clear k1 k2 k3 hrd hrec hrow e4
      go_wp2_with (at_builtin
                   refine wpList_append_rec rfl (.tmp 48) (.tmp 49) _ rfl i0 Try.underlying39 hi0 hz0 hz1 hz2 rfl HQ.out.2.2.2.1 ad c lst rfl HQ.out.2.2.1 (by have := HRR.out; omega) (fun j hj => by rw [hj]; exact rowV_lt HQ.out.2.2.2.2.1) ?_
                   intro la' cap' w5 hR5 ho5
                   have hr5 : RowV w5 l 63 (lgC p ⟨fr, n, tail, head, L⟩ la cap) := rowV_only HQ.out.2.2.2.2.1 ho5 (fun hn => hn.2 rfl)
                   have e5 : w5.cell? ⟨l, 5, none⟩ = some (.slice la L.length cap) := rowV_cell hr5 5
                   have e4 : w5.cell? ⟨l, 4, none⟩ = some (.int .i64 (head : Int)) := rowV_cell hr5 4
                   have f5 := rowV_frozen hr5 5
                   have f4 := rowV_frozen hr5 4
                   have H5 := Lib.hid (And.intro hr5 (And.intro hR5 ho5))
                   clear hr5 hR5 ho5)
      go_ret
      obtain ⟨k2, k3, _, _, _, e4, k1⟩ := HQ.out
      obtain ⟨hr5, hR5, ho5⟩ := H5.out
      rw [e4, k1]
      have hXl := HD.out.2.2.2
      have hX := HD.out.2.2.1
      have hgr := K.grow k2 (ho5.mono fun k _ h => hX k h.1)
      have hset : ∀ (u v : Value), Only (fun j => j = l) w5 ((w5.setCell ⟨l, 5, none⟩ u).setCell ⟨l, 4, none⟩ v) := fun u v => ((Only.refl (fun j => j = l) w5).setCell (fun _ => rfl) u).setCell (fun _ => rfl) v
      refine ⟨rfl, fun k => wr.heap.size ≤ k ∧ k < w5.heap.size, fun k hk => ⟨Nat.le_trans k3.size hk.1, Nat.lt_of_lt_of_le hk.2 (hset _ _).size⟩, ?_, ?_, ?_⟩
      · exact K.at_ hgr (hset _ _) fun k e => .inl (e ▸ hXl)
      · refine ⟨la', cap', ?_, ?_, .inl H.out.2.2.2.2.2⟩
        · have r := rowV_stored (rowV_stored hr5 5 (.slice la' (L.length + lst.length) cap')) 4 (.int .i64 ((head : Int) + (lst.length : Int)))
          have e : lgC p ⟨fr, n, tail, head + lst.length, L ++ lst⟩ la' cap' = ((lgC p ⟨fr, n, tail, head, L⟩ la cap).set 5 (.slice la' (L.length + lst.length) cap')).set 4 (.int .i64 ((head : Int) + (lst.length : Int))) := by
            show [_, _, _, _, Value.int .i64 ((head + lst.length : Nat) : Int), Value.slice _ (L ++ lst).length _] = [_, _, _, _, _, _]
            rw [List.length_append]; rfl
          unfold LgHead
          rw [e]; exact r
        · rcases hR5 with hx | ⟨g', A, r, a1, a2, a3, a4, a5, a6, a7⟩
          · exact .inl hx
          · refine .inr ⟨g', A, r, a1, rowV_only a2 (hset _ _) a6, a3, a4, a5, a6, ?_⟩
            exact a7.imp id fun h => ⟨h, rowV_lt a2⟩
      · refine (k3.mono fun k _ h => Or.inl h).trans (G := fun k => S k) ((ho5.mono fun k _ h => h.1).trans (hset _ _) fun k _ e => e ▸ H.out.2.2.2.2.2) fun k _ h => .inr h
/-- Append -/
theorem wappend_any (K : DskP p D) (h : D w X d) (hl : LogAt 63 w S l p g) (hX : ∀ k, S k → X k) (hg : Wl.Good d.B.length g) (ad : Option Addr) (lst : List ByteArray) (c : Nat) (hr : ReadsS w ad lst) (had : ∀ a, ad = some a → lst ≠ [] → X a.block) (hlen : lst.length ≤ 1000)
    (hh : g.head + lst.length ≤ 1125900000000000) (hW : d.W.length + lst.length ≤ 1000000) :
    Calls Try.prog 20 #[.pointer (some ⟨l, 0, none⟩), .slice ad lst.length c] w fun e w' => e = .returned (.int .i64 (Wl.appE d g lst)) ∧ AppP 63 D X S l p (Wl.appG d g lst) (Wl.appD d g lst) w w' := by
  by_cases hb : lst.any Wl.big = true
  · exact wappend_no K h hl hg (by omega) ad lst c hr hlen (.inl hb)
  · by_cases hroom : g.n - g.L.length < lst.length
    · exact wappend_no K h hl hg (by omega) ad lst c hr hlen (.inr hroom)
    · exact wappend_yes K h hl hX hg ad lst c hr had hlen hh hW (by cases h : lst.any Wl.big with | false => rfl | true => exact absurd h hb) hroom
end
end Go.Proofs.Ytednmncapfclfaa
