/-
  Layer 7: the program's reading and writing of a place.
-/
import Derived.Test.YtednmncapfclfaaZWalClone
namespace Go.Proofs.Ytednmncapfclfaa
open Go.RowKit
def Wl.outAt (d : Dk.D) (fr n p : Nat) : ByteArray := if Wl.errAt d fr n p = 0 then Wl.textAt d fr n p else ⟨#[]⟩
theorem Wl.at_bad {d : Dk.D} {fr n p : Nat} (h : Dk.readE d (Wl.spot fr n p : Nat) ≠ 0) : Wl.outAt d fr n p = ⟨#[]⟩ ∧ Wl.errAt d fr n p = Dk.readE d (Wl.spot fr n p : Nat) := by
  have e : Wl.errAt d fr n p = Dk.readE d (Wl.spot fr n p : Nat) := by unfold Wl.errAt; rw [if_pos h]
  exact ⟨by unfold Wl.outAt; rw [if_neg (by rw [e]; exact h)], e⟩
theorem Wl.at_rot {d : Dk.D} {fr n p : Nat} (h : Dk.readE d (Wl.spot fr n p : Nat) = 0) (h2 : (Sl.take (Dk.readS d (Wl.spot fr n p : Nat))).2.2 ≠ 0 ∨ (Sl.take (Dk.readS d (Wl.spot fr n p : Nat))).1 ≠ (p : Int) + 1) : Wl.outAt d fr n p = ⟨#[]⟩ ∧ Wl.errAt d fr n p = 9 := by
  have e : Wl.errAt d fr n p = 9 := by unfold Wl.errAt; rw [if_neg (fun hn => hn h), if_pos h2]
  exact ⟨by unfold Wl.outAt; rw [if_neg (by rw [e]; decide)], e⟩
theorem Wl.at_ok {d : Dk.D} {fr n p : Nat} (h : Dk.readE d (Wl.spot fr n p : Nat) = 0) (h2 : (Sl.take (Dk.readS d (Wl.spot fr n p : Nat))).2.2 = 0) (h3 : (Sl.take (Dk.readS d (Wl.spot fr n p : Nat))).1 = (p : Int) + 1) : Wl.outAt d fr n p = (Sl.take (Dk.readS d (Wl.spot fr n p : Nat))).2.1 ∧ Wl.errAt d fr n p = 0 := by
  have e : Wl.errAt d fr n p = 0 := by unfold Wl.errAt; rw [if_neg (fun hn => hn h), if_neg (fun hn => hn.elim (fun a => a h2) fun a => a h3)]
  exact ⟨by unfold Wl.outAt Wl.textAt; rw [if_pos e], e⟩
section
variable {w : World} {X : Nat → Prop} {p : Nat} {d : Dk.D} {D : World → (Nat → Prop) → Dk.D → Prop}
theorem ring_box (w : World) (p : Nat) (fr n : Int) : Below w.heap.size w (w.alloc (.cells #[.pointer (some ⟨p, 0, none⟩), .int .i64 fr, .int .i64 n] 59)) ∧ w.heap.size < (w.alloc (.cells #[.pointer (some ⟨p, 0, none⟩), .int .i64 fr, .int .i64 n] 59)).heap.size ∧
    RowV (w.alloc (.cells #[.pointer (some ⟨p, 0, none⟩), .int .i64 fr, .int .i64 n] 59)) w.heap.size 59 [.pointer (some ⟨p, 0, none⟩), .int .i64 fr, .int .i64 n] :=
  ⟨(Below.refl w.heap.size w).alloc (Nat.le_refl _) _, by simp, rowV_new w _ [_, _, _]⟩
set_option maxRecDepth 100000 in
set_option maxHeartbeats 1600000 in
theorem wread_any (K : DskP p D) (h : D w X d) (fr n k : Nat) (hn : 1 ≤ n) (hm : fr + n ≤ 4096) (hk : k ≤ 1125900000000000) :
    Calls Try.prog 39 #[.agg #[.pointer (some ⟨p, 0, none⟩), .int .i64 (fr : Int), .int .i64 (n : Int)], .int .i64 (k : Int)] w fun e w' => e = .returned (.tuple #[.string (Wl.outAt d fr n k), .int .i64 (Wl.errAt d fr n k)]) ∧ Below w.heap.size w w' := by
  obtain ⟨hb, hlt, hrow⟩ := ring_box w p fr n
  have cB := fun wx => wblock_any (.pointer (some ⟨p, 0, none⟩)) fr n k hn hm hk wx
  have cR := fun wx (hx : Below w.heap.size w wx) => K.read (K.below h hx) (Wl.spot fr n k : Nat)
  have hsz := readS_size (K.ok h) (Wl.spot fr n k : Nat)
  have cT := fun wx => take5_any (Dk.readS d (Wl.spot fr n k : Nat)) hsz wx
  have cN := fun wx => wnumber_any k hk wx
  have a1 := Wl.at_bad (d := d) (fr := fr) (n := n) (p := k)
  have a2 := Wl.at_rot (d := d) (fr := fr) (n := n) (p := k)
  have a3 := Wl.at_ok (d := d) (fr := fr) (n := n) (p := k)
  generalize Wl.outAt d fr n k = O at *
  generalize Wl.errAt d fr n k = E at *
  generalize Dk.readE d (Wl.spot fr n k : Nat) = RE at *
  generalize Dk.readS d (Wl.spot fr n k : Nat) = RS at *
  generalize (Sl.take RS).1 = T1 at *
  generalize (Sl.take RS).2.1 = T2 at *
  generalize (Sl.take RS).2.2 = T3 at *
  generalize ((Wl.spot fr n k : Nat) : Int) = P at *
  have c0 := rowV_cell hrow 0
  have c1 := rowV_cell hrow 1
  have c2 := rowV_cell hrow 2
  simp only [List.getElem?_cons_zero, List.getElem?_cons_succ] at c0 c1 c2
  have hX : ∀ w4, Below (w.alloc (.cells #[.pointer (some ⟨p, 0, none⟩), .int .i64 (fr : Int), .int .i64 (n : Int)] 59)).drew.heap.size (w.alloc (.cells #[.pointer (some ⟨p, 0, none⟩), .int .i64 (fr : Int), .int .i64 (n : Int)] 59)).drew w4 → Below w.heap.size w w4 := fun w4 h4 => below_two hb ((Below.refl _ _).drew.trans h4)
  have hT : ∀ a b, Below w.heap.size w a → Below a.heap.size a b → Below w.heap.size w b := fun a b h1 h2 => below_two h1 h2
  have H := Lib.hid (And.intro cB (And.intro cR (And.intro cT (And.intro cN (And.intro hX (And.intro hlt hT))))))
  have HA := Lib.hid (And.intro a1 (And.intro a2 a3))
  clear cB cR cT cN hb hlt a1 a2 a3 hrow h hsz hX hT hn hm
  by_cases e1 : RE = 0
  · have q1 : (RE != 0) = false := by rw [e1]; rfl
    have HE := Lib.hid e1
    clear e1
    by_cases e2 : T3 = 0
    · have q2 : (T3 != 0) = false := by rw [e2]; rfl
      have HE2 := Lib.hid e2
      clear e2
      by_cases e3 : T1 = (k : Int) + 1
      · have q3 : (T1 != (k : Int) + 1) = false := by rw [e3]; simp
        have HO := Lib.hid (HA.out.2.2 HE.out HE2.out e3)
        clear e3
        go_enter Try.func39, Try.ntmps39
        go_wp2_with fail
        generalize hwb : World.alloc w _ = wb at *
        generalize hN : w.heap.size = N at *
        go_region_held3 (fun wx => wx.cell? ⟨N, 0, none⟩ = some (.pointer (some ⟨p, 0, none⟩)) ∧ wx.cell? ⟨N, 1, none⟩ = some (.int .i64 (fr : Int)) ∧ wx.cell? ⟨N, 2, none⟩ = some (.int .i64 (n : Int)))
          (first | exact ⟨c0, c1, c2⟩ | exact ⟨(hb4.cell (p := ⟨N, 0, none⟩) H.out.2.2.2.2.2.1).trans c0, (hb4.cell (p := ⟨N, 1, none⟩) H.out.2.2.2.2.2.1).trans c1, (hb4.cell (p := ⟨N, 2, none⟩) H.out.2.2.2.2.2.1).trans c2⟩)
          (first
            | (go_at_call 55; refine (H.out.1 _).mono ?_; rintro e w4 ⟨rfl, hb4⟩)
            | (go_at_call 24; refine (H.out.2.1 _ (H.out.2.2.2.2.1 _ hb4)).mono ?_; rintro e w5 ⟨rfl, hw5⟩; obtain rfl := hw5.symm))
        have H4 := Lib.hid (H.out.2.2.2.2.1 _ hb4)
        clear hb4 hw5 c0 c1 c2 hwb
        go_wp2_with fail
        refine (H.out.2.2.1 _).mono ?_
        rintro e w6 ⟨rfl, hb6⟩
        have H6 := Lib.hid (H.out.2.2.2.2.2.2 _ _ H4.out hb6)
        clear hb6
        go_wp2_with fail
        refine (H.out.2.2.2.1 _).mono ?_
        rintro e w7 ⟨rfl, hw7⟩
        obtain rfl := hw7.symm; clear hw7
        go_wp2_with fail
        go_ret2
        exact ⟨by rw [HO.out.1, HO.out.2]; rfl, by rw [hN]; exact H6.out⟩
      · have q3 : (T1 != (k : Int) + 1) = true := by simpa using e3
        have HO := Lib.hid (HA.out.2.1 HE.out (.inr e3))
        clear e3
        go_enter Try.func39, Try.ntmps39
        go_wp2_with fail
        generalize hwb : World.alloc w _ = wb at *
        generalize hN : w.heap.size = N at *
        go_region_held3 (fun wx => wx.cell? ⟨N, 0, none⟩ = some (.pointer (some ⟨p, 0, none⟩)) ∧ wx.cell? ⟨N, 1, none⟩ = some (.int .i64 (fr : Int)) ∧ wx.cell? ⟨N, 2, none⟩ = some (.int .i64 (n : Int)))
          (first | exact ⟨c0, c1, c2⟩ | exact ⟨(hb4.cell (p := ⟨N, 0, none⟩) H.out.2.2.2.2.2.1).trans c0, (hb4.cell (p := ⟨N, 1, none⟩) H.out.2.2.2.2.2.1).trans c1, (hb4.cell (p := ⟨N, 2, none⟩) H.out.2.2.2.2.2.1).trans c2⟩)
          (first
            | (go_at_call 55; refine (H.out.1 _).mono ?_; rintro e w4 ⟨rfl, hb4⟩)
            | (go_at_call 24; refine (H.out.2.1 _ (H.out.2.2.2.2.1 _ hb4)).mono ?_; rintro e w5 ⟨rfl, hw5⟩; obtain rfl := hw5.symm))
        have H4 := Lib.hid (H.out.2.2.2.2.1 _ hb4)
        clear hb4 hw5 c0 c1 c2 hwb
        go_wp2_with fail
        refine (H.out.2.2.1 _).mono ?_
        rintro e w6 ⟨rfl, hb6⟩
        have H6 := Lib.hid (H.out.2.2.2.2.2.2 _ _ H4.out hb6)
        clear hb6
        go_wp2_with fail
        refine (H.out.2.2.2.1 _).mono ?_
        rintro e w7 ⟨rfl, hw7⟩
        obtain rfl := hw7.symm; clear hw7
        go_wp2_with fail
        go_ret2
        exact ⟨by rw [HO.out.1, HO.out.2]; rfl, by rw [hN]; exact H6.out⟩
    · have q2 : (T3 != 0) = true := by simpa using e2
      have HO := Lib.hid (HA.out.2.1 HE.out (.inl e2))
      clear e2
      go_enter Try.func39, Try.ntmps39
      go_wp2_with fail
      generalize hwb : World.alloc w _ = wb at *
      generalize hN : w.heap.size = N at *
      go_region_held3 (fun wx => wx.cell? ⟨N, 0, none⟩ = some (.pointer (some ⟨p, 0, none⟩)) ∧ wx.cell? ⟨N, 1, none⟩ = some (.int .i64 (fr : Int)) ∧ wx.cell? ⟨N, 2, none⟩ = some (.int .i64 (n : Int)))
        (first | exact ⟨c0, c1, c2⟩ | exact ⟨(hb4.cell (p := ⟨N, 0, none⟩) H.out.2.2.2.2.2.1).trans c0, (hb4.cell (p := ⟨N, 1, none⟩) H.out.2.2.2.2.2.1).trans c1, (hb4.cell (p := ⟨N, 2, none⟩) H.out.2.2.2.2.2.1).trans c2⟩)
        (first
          | (go_at_call 55; refine (H.out.1 _).mono ?_; rintro e w4 ⟨rfl, hb4⟩)
          | (go_at_call 24; refine (H.out.2.1 _ (H.out.2.2.2.2.1 _ hb4)).mono ?_; rintro e w5 ⟨rfl, hw5⟩; obtain rfl := hw5.symm))
      have H4 := Lib.hid (H.out.2.2.2.2.1 _ hb4)
      clear hb4 hw5 c0 c1 c2 hwb
      go_wp2_with fail
      refine (H.out.2.2.1 _).mono ?_
      rintro e w6 ⟨rfl, hb6⟩
      have H6 := Lib.hid (H.out.2.2.2.2.2.2 _ _ H4.out hb6)
      clear hb6
      go_wp2_with fail
      go_ret2
      exact ⟨by rw [HO.out.1, HO.out.2]; rfl, by rw [hN]; exact H6.out⟩
  · have q1 : (RE != 0) = true := by simpa using e1
    have HO := Lib.hid (HA.out.1 e1)
    clear e1
    go_enter Try.func39, Try.ntmps39
    go_wp2_with fail
    generalize hwb : World.alloc w _ = wb at *
    generalize hN : w.heap.size = N at *
    go_region_held3 (fun wx => wx.cell? ⟨N, 0, none⟩ = some (.pointer (some ⟨p, 0, none⟩)) ∧ wx.cell? ⟨N, 1, none⟩ = some (.int .i64 (fr : Int)) ∧ wx.cell? ⟨N, 2, none⟩ = some (.int .i64 (n : Int)))
      (first | exact ⟨c0, c1, c2⟩ | exact ⟨(hb4.cell (p := ⟨N, 0, none⟩) H.out.2.2.2.2.2.1).trans c0, (hb4.cell (p := ⟨N, 1, none⟩) H.out.2.2.2.2.2.1).trans c1, (hb4.cell (p := ⟨N, 2, none⟩) H.out.2.2.2.2.2.1).trans c2⟩)
      (first
        | (go_at_call 55; refine (H.out.1 _).mono ?_; rintro e w4 ⟨rfl, hb4⟩)
        | (go_at_call 24; refine (H.out.2.1 _ (H.out.2.2.2.2.1 _ hb4)).mono ?_; rintro e w5 ⟨rfl, hw5⟩; obtain rfl := hw5.symm))
    have H4 := Lib.hid (H.out.2.2.2.2.1 _ hb4)
    clear hb4 hw5 c0 c1 c2 hwb
    go_wp2_with fail
    go_ret2
    exact ⟨by rw [HO.out.1, HO.out.2]; rfl, by rw [hN]; exact H4.out⟩
set_option maxRecDepth 100000 in
set_option maxHeartbeats 1600000 in
theorem wwrite_any (K : DskP p D) (h : D w X d) (fr n k : Nat) (hn : 1 ≤ n) (hm : fr + n ≤ 4096) (hk : k ≤ 1125900000000000) (s : ByteArray) (hs : s.size ≤ 490) (hW : d.W.length ≤ 1000000) :
    Calls Try.prog 42 #[.agg #[.pointer (some ⟨p, 0, none⟩), .int .i64 (fr : Int), .int .i64 (n : Int)], .int .i64 (k : Int), .string s] w fun e w' => e = .returned (.int .i64 (Wl.stepE d fr n k s)) ∧ D w' X (Wl.stepD d fr n k s) ∧ Only (fun j => ¬ X j) w w' := by
  obtain ⟨hb, hlt, hrow⟩ := ring_box w p fr n
  have cB := fun wx => wblock_any (.pointer (some ⟨p, 0, none⟩)) fr n k hn hm hk wx
  have cN := fun wx => wnumber_any k hk wx
  have cP := fun wx => put5_any ((k : Int) + 1) s (by unfold maxLen; omega) wx
  have ep : Sl.putE ((k : Int) + 1) s = 0 := Sl.putE_ok.2 ⟨by omega, by omega, hs⟩
  rw [ep] at cP
  have hX : ∀ w4, Below (w.alloc (.cells #[.pointer (some ⟨p, 0, none⟩), .int .i64 (fr : Int), .int .i64 (n : Int)] 59)).heap.size (w.alloc (.cells #[.pointer (some ⟨p, 0, none⟩), .int .i64 (fr : Int), .int .i64 (n : Int)] 59)) w4 →
      Calls Try.prog 31 #[.pointer (some ⟨p, 0, none⟩), .int .i64 (Wl.spot fr n k : Nat), .string (Sl.putB ((k : Int) + 1) s)] w4 fun e w' => e = .returned (.int .i64 (Wl.stepE d fr n k s)) ∧ (D w' X (Wl.stepD d fr n k s) ∧ Only (fun j => ¬ X j) w w') ∧ ∀ j, w'.cell? ⟨w.heap.size, j, none⟩ = w4.cell? ⟨w.heap.size, j, none⟩ := fun w4 h4 => by
    have hg := K.grow h (Only.of_none (F := X) hb)
    refine (K.write (K.below hg h4) _ _ hW).mono fun e w' ⟨e1, e2, e3⟩ => ⟨e1, ⟨K.less e2 fun _ h => .inl h, ?_⟩, fun j => ?_⟩
    · exact (Only.of_none (F := fun j => ¬ X j) (below_two hb h4)).more (e3.mono fun _ _ hn hx => hn (.inl hx))
    · exact e3.cell (p := ⟨w.heap.size, j, none⟩) (Nat.lt_of_lt_of_le hlt h4.size) fun hn => hn (.inr ⟨Nat.le_refl _, hlt⟩)
  generalize Wl.stepE d fr n k s = E at *
  generalize Wl.stepD d fr n k s = DD at *
  generalize Sl.putB ((k : Int) + 1) s = B at *
  generalize ((Wl.spot fr n k : Nat) : Int) = P at *
  have c0 := rowV_cell hrow 0
  have c1 := rowV_cell hrow 1
  have c2 := rowV_cell hrow 2
  simp only [List.getElem?_cons_zero, List.getElem?_cons_succ] at c0 c1 c2
  have H := Lib.hid (And.intro cB (And.intro cN (And.intro cP (And.intro hX hlt))))
  clear cB cN cP hX hlt hrow h hn hm hs hW hb ep
  go_enter Try.func42, Try.ntmps42
  go_wp2_with fail
  generalize hwb : World.alloc w _ = wb at *
  generalize hN : w.heap.size = N at *
  refine (H.out.2.1 _).mono ?_
  rintro e w1 ⟨rfl, hw1⟩
  obtain rfl := hw1.symm; clear hw1
  go_wp2_with fail
  refine (H.out.2.2.1 _).mono ?_
  rintro e w2 ⟨rfl, hb2⟩
  have d0 := (hb2.cell (p := ⟨N, 0, none⟩) H.out.2.2.2.2).trans c0
  have d1 := (hb2.cell (p := ⟨N, 1, none⟩) H.out.2.2.2.2).trans c1
  have d2 := (hb2.cell (p := ⟨N, 2, none⟩) H.out.2.2.2.2).trans c2
  have H2 := Lib.hid (And.intro hb2 (Nat.lt_of_lt_of_le H.out.2.2.2.2 hb2.size))
  clear hb2 c0 c1 c2 hwb
  go_wp2_with fail
  go_region_held3 (fun wx => wx.cell? ⟨N, 0, none⟩ = some (.pointer (some ⟨p, 0, none⟩)) ∧ wx.cell? ⟨N, 1, none⟩ = some (.int .i64 (fr : Int)) ∧ wx.cell? ⟨N, 2, none⟩ = some (.int .i64 (n : Int)))
    (first
      | exact ⟨d0, d1, d2⟩
      | exact ⟨(hb4.cell (p := ⟨N, 0, none⟩) H2.out.2).trans d0, (hb4.cell (p := ⟨N, 1, none⟩) H2.out.2).trans d1, (hb4.cell (p := ⟨N, 2, none⟩) H2.out.2).trans d2⟩
      | exact ⟨(h5.2 0).trans ((hb4.cell (p := ⟨N, 0, none⟩) H2.out.2).trans d0), (h5.2 1).trans ((hb4.cell (p := ⟨N, 1, none⟩) H2.out.2).trans d1), (h5.2 2).trans ((hb4.cell (p := ⟨N, 2, none⟩) H2.out.2).trans d2)⟩)
    (first
      | (go_at_call 55; refine (H.out.1 _).mono ?_; rintro e w4 ⟨rfl, hb4⟩)
      | (go_at_call 31; refine (H.out.2.2.2.1 _ (below_two H2.out.1 ((Below.refl _ _).drew.trans hb4))).mono ?_; rintro e w5 ⟨rfl, h5⟩))
  have H5 := Lib.hid h5
  clear h5 hb4 d0 d1 d2
  go_wp2_with fail
  go_ret
  exact ⟨rfl, H5.out.1⟩
end
end Go.Proofs.Ytednmncapfclfaa
