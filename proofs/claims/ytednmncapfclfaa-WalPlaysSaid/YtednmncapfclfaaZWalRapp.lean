/-
  Layer 7: the document's Append.
-/
import Derived.Test.YtednmncapfclfaaZWalRef
namespace Go.Proofs.Ytednmncapfclfaa
open Go.RowKit
section
variable {w w' : World} {X S : Nat → Prop} {l q : Nat} {d : Dk.D} {g : Wl.Lg} {E : World → (Nat → Prop) → Dk.D → Prop}
theorem rappP_none {T : Nat} (K : DskR q E) (h : E w X d) (hl : LogAt T w S l q g) (hb : Below w.heap.size w w') : AppP T E X S l q g d w w' :=
  ⟨fun _ => False, fun _ h => h.elim, K.less (K.apart.below h hb) fun _ h => h.elim id False.elim, logAt_mono (logAt_below hl hb) fun _ _ h => .inl h, Only.of_none hb⟩
theorem rappP_disk {T : Nat} {d' : Dk.D} (K : DskR q E) (h : E w' X d') (hl : LogAt T w S l q g) (hX : ∀ k, S k → X k) (ho : Only (fun k => ¬ X k) w w') : AppP T E X S l q g d' w w' :=
  ⟨fun _ => False, fun _ h => h.elim, K.less h fun _ h => h.elim id False.elim, logAt_mono (logAt_only hl ho fun k _ hs hn => hn (hX k hs)) fun _ _ h => .inl h, ho.mono fun _ _ h => .inl h⟩
set_option maxRecDepth 100000 in
set_option maxHeartbeats 1600000 in
theorem rappend_big (K : DskR q E) (h : E w X d) (hl : LogAt 45 w S l q g) (ad : Option Addr) (lst : List ByteArray) (c : Nat) (hr : ReadsS w ad lst) (hlen : lst.length ≤ 1000) (hb : lst.any Wl.big = true) :
    Calls Try.prog 33 #[.pointer (some ⟨l, 0, none⟩), .slice ad lst.length c] w fun e w' => e = .returned (.int .i64 (Wl.appE d g lst)) ∧ AppP 45 E X S l q (Wl.appG d g lst) (Wl.appD d g lst) w w' := by
  obtain ⟨e1, e2, e3⟩ := Wl.app_big (d := d) (g := g) hb
  rw [e1, e2, e3]
  have hP := rappP_none K h hl (Below.refl w.heap.size w)
  have H := Lib.hid (And.intro hr (And.intro hb hP))
  clear hP e1 e2 e3 h hl hr hb
  go_enter Try.func33, Try.ntmps33
  go_wp2_with fail
  go_loop [5] (fun i => ∃ k : Nat, k ≤ lst.length ∧ i = .int .i64 (k : Int) ∧ Hid ((lst.take k).any Wl.big = false)) (fun i => lst.length - (intOf i).toNat)
  case atStart => exact ⟨0, Nat.zero_le _, rfl, Lib.hid rfl⟩
  case round =>
    obtain ⟨k, hk, rfl, HK⟩ := hrel
    by_cases hlt : k < lst.length
    · obtain ⟨b, off, rfl, hc⟩ := H.out.1 k hlt
      have ht := any_take lst k hlt
      generalize lst[k] = x at *
      have HX := Lib.hid ht
      clear ht
      by_cases hbig : 490 < x.size
      · have t1 : (490 : Int) < (x.size : Int) := by omega
        go_wp2_with fail
        go_ret
        exact ⟨rfl, H.out.2.2⟩
      · have t1 : ¬ (490 : Int) < (x.size : Int) := by omega
        have hbf : Wl.big x = false := decide_eq_false hbig
        have HB := Lib.hid hbf
        clear hbig hbf
        go_wp2_with fail
        go_round
        case rel => exact ⟨k + 1, by omega, by go_num, Lib.hid (by rw [HX.out, HK.out, HB.out]; rfl)⟩
        case measure => simp [intOf]; omega
    · obtain rfl : k = lst.length := by omega
      have := HK.out
      rw [List.take_length, H.out.2.1] at this
      cases this
set_option maxRecDepth 100000 in
set_option maxHeartbeats 1600000 in
theorem rappend_full (K : DskR q E) (h : E w X d) (hl : LogAt 45 w S l q g) (hg : Wl.Good d.B.length g) (hh : g.head ≤ 1125900000000000) (ad : Option Addr) (lst : List ByteArray) (c : Nat) (hr : ReadsS w ad lst) (hlen : lst.length ≤ 1000) (hb : lst.any Wl.big = false) (hf : g.n - g.L.length < lst.length) :
    Calls Try.prog 33 #[.pointer (some ⟨l, 0, none⟩), .slice ad lst.length c] w fun e w' => e = .returned (.int .i64 (Wl.appE d g lst)) ∧ AppP 45 E X S l q (Wl.appG d g lst) (Wl.appD d g lst) w w' := by
  obtain ⟨e1, e2, e3⟩ := Wl.app_full (d := d) (g := g) (by rw [hb]; exact Bool.false_ne_true) hf
  rw [e1, e2, e3]
  have hP : ∀ w', Below w.heap.size w w' → AppP 45 E X S l q g d w w' := fun w' hb => rappP_none K h hl hb
  have cR := rroom7_any hl hg (K.ok h).most hh
  have hbn := fun k hk => big_not hb k hk
  have H := Lib.hid (And.intro hr (And.intro hP (And.intro cR hbn)))
  clear hP cR hbn e1 e2 e3 h hl hg hr hb
  generalize g.n - g.L.length = r at *
  go_enter Try.func33, Try.ntmps33
  go_wp2_with fail
  go_loop [5] (fun i => ∃ k : Nat, k ≤ lst.length ∧ i = .int .i64 (k : Int)) (fun i => lst.length - (intOf i).toNat)
  case atStart => exact ⟨0, Nat.zero_le _, rfl⟩
  case round =>
    obtain ⟨k, hk, rfl⟩ := hrel
    by_cases hlt : k < lst.length
    · obtain ⟨b, off, rfl, hc⟩ := H.out.1 k hlt
      have hs := H.out.2.2.2 k hlt
      generalize lst[k] = x at *
      have t1 : ¬ (490 : Int) < (x.size : Int) := by omega
      go_wp2_with fail
      go_round
      case rel => exact ⟨k + 1, by omega, by go_num⟩
      case measure => simp [intOf]; omega
    · obtain rfl : k = lst.length := by omega
      go_wp2_with fail
      refine H.out.2.2.1.mono ?_
      rintro e w2 ⟨rfl, nq, hw2⟩
      have H2 := Lib.hid (show Below w.heap.size w w2 by rw [hw2]; exact below_drewN (Below.refl _ _) nq)
      clear hw2
      go_wp2_with fail
      go_ret
      exact ⟨rfl, H.out.2.1 _ H2.out⟩
theorem rem_of (a n : Nat) (hn : 1 ≤ n) : (a : Int).tmod (n : Int) = ((a % n : Nat) : Int) ∧ ¬ n = 0 := by
  rw [Int.tmod_eq_emod_of_nonneg (by omega), Int.natCast_emod]
  exact ⟨rfl, by omega⟩
/-- what stood below is read as before -/
theorem readsS_up {wr wa wb : World} {ad : Option Addr} {lst : List ByteArray} {Av : Nat → Prop} (h : ReadsS wa ad lst) (ho : Only (fun j => wr.heap.size ≤ j ∧ ¬ Av j) wa wb) (hl : ∀ a, ad = some a → lst ≠ [] → a.block < wr.heap.size) : ReadsS wb ad lst := by
  intro i hi
  obtain ⟨b, off, e, hc⟩ := h i hi
  exact ⟨b, off, e, (ho.cell (World.block_lt_of_cell? wa _ hc) (fun hn => by have : b < wr.heap.size := hl _ e (by intro e0; rw [e0] at hi; simp at hi); have h1 : wr.heap.size ≤ b := hn.1; omega)).trans hc⟩
set_option maxRecDepth 100000 in
set_option maxHeartbeats 4000000 in
theorem rappend_yes (K : DskR q E) (h : E w X d) (hl : LogAt 45 w S l q g) (hX : ∀ k, S k → X k) (hg : Wl.Good d.B.length g) (ad : Option Addr) (lst : List ByteArray) (c : Nat) (hr : ReadsS w ad lst) (had : ∀ a, ad = some a → lst ≠ [] → X a.block) (hlen : lst.length ≤ 1000)
    (hh : g.head + lst.length ≤ 1125900000000000) (hW : d.W.length + lst.length ≤ 1000000) (hb : lst.any Wl.big = false) (hroom : ¬ g.n - g.L.length < lst.length) :
    Calls Try.prog 33 #[.pointer (some ⟨l, 0, none⟩), .slice ad lst.length c] w fun e w' => e = .returned (.int .i64 (Wl.appE d g lst)) ∧ AppP 45 E X S l q (Wl.appG d g lst) (Wl.appD d g lst) w w' := by
  obtain ⟨i0, hi0, hz0, hz1, hz2⟩ := info_parts info_str
  have hm := (K.ok h).most
  have cR := rroom7_any hl hg hm (by omega)
  obtain ⟨e1, e2, e3, e4⟩ := Wl.app_run (d := d) (g := g) (by rw [hb]; exact Bool.false_ne_true) hroom
  rw [e1, e2]
  have hl0 := hl
  obtain ⟨la, cap, h1, h2, h3⟩ := hl
  have hXl := hX l h3
  have hfit := hg.fits
  have hpos := hg.pos
  have hLn := hg.room
  obtain ⟨fr, n, tail, head, L⟩ := g
  dsimp only at *
  have hbn := fun k hk => big_not hb k hk
  have hrX : ∀ wx, Only (fun j => ¬ X j) w wx → ReadsS wx ad lst := fun wx ho i hi => by
    obtain ⟨b, off, e, hc⟩ := hr i hi
    exact ⟨b, off, e, (ho.cell (World.block_lt_of_cell? w _ hc) (show ¬ ¬ X b from fun hn => hn (had _ e (by intro e0; rw [e0] at hi; simp at hi)))).trans hc⟩
  have cP : ∀ k (hk : k < lst.length) wx, Calls Try.prog 53 #[.int .i64 (((head + k : Nat) : Int) + 1), .string lst[k]] wx fun e w' => e = .returned (.tuple #[.string (Sl.putB (((head + k : Nat) : Int) + 1) lst[k]), .int .i64 0]) ∧ Below wx.heap.size wx w' := fun k hk wx => by
    have ep : Sl.putE (((head + k : Nat) : Int) + 1) lst[k] = 0 := Sl.putE_ok.2 ⟨by omega, by omega, hbn k hk⟩
    have := rput5_any (((head + k : Nat) : Int) + 1) lst[k] (by have := hbn k hk; unfold maxLen; omega) wx
    rw [ep] at this
    exact this
  have cW : ∀ k (hk : k < lst.length) wx, E wx X (Wl.run d fr n head (lst.take k)).1 → Calls Try.prog 32 #[.pointer (some ⟨q, 0, none⟩), .int .i64 (Wl.spot fr n (head + k) : Nat), .string (Sl.putB (((head + k : Nat) : Int) + 1) lst[k])] wx fun e w' => e = .returned (.int .i64 (Wl.stepE (Wl.run d fr n head (lst.take k)).1 fr n (head + k) lst[k])) ∧ E w' X (Wl.stepD (Wl.run d fr n head (lst.take k)).1 fr n (head + k) lst[k]) ∧ Only (fun j => ¬ X j) wx w' := fun k hk wx hx => by
    refine K.write hx _ _ ?_
    have := Wl.run_W (fr := fr) (n := n) (lst.take k) d head
    rw [List.length_take] at this; omega
  have hnx := fun k hk => Wl.run_next (fr := fr) (n := n) lst d head k hk
  have H := Lib.hid (And.intro hbn (And.intro cP (And.intro cR (And.intro h1 (And.intro h2 h3)))))
  have HW := Lib.hid (And.intro cW (And.intro hnx (And.intro hrX (And.intro e3 e4))))
  have HD := Lib.hid (And.intro h (And.intro hl0 (And.intro hX hXl)))
  have hr2 : lst.length ≤ n - L.length := by omega
  have hn4 : n ≤ 4096 := by omega
  have hrd0 := hr
  clear hbn cP cR h1 h2 h3 cW hnx hrX e1 e2 e3 e4 h hl0 hX hXl hg hr had hb hroom hm hW
  obtain ⟨r, hrr⟩ : ∃ r, r = n - L.length := ⟨_, rfl⟩
  rw [← hrr] at H hr2
  have HRR := Lib.hid (And.intro hrr (And.intro hLn (And.intro hr2 (And.intro hn4 (And.intro hrd0 (And.intro hfit hpos))))))
  have t14 : decide (r < lst.length) = false := decide_eq_false (by omega)
  clear hrr hLn hr2 hrd0 hfit
  go_enter Try.func33, Try.ntmps33
  go_wp2_with fail
  go_loop [5] (fun i => ∃ k : Nat, k ≤ lst.length ∧ i = .int .i64 (k : Int)) (fun i => lst.length - (intOf i).toNat)
  case atStart => exact ⟨0, Nat.zero_le _, rfl⟩
  case round =>
    obtain ⟨k, hk, rfl⟩ := hrel
    by_cases hlt : k < lst.length
    · obtain ⟨b, off, rfl, hc⟩ := HRR.out.2.2.2.2.1 k hlt
      have hs := H.out.1 k hlt
      generalize lst[k] = x at *
      have t1 : ¬ (490 : Int) < (x.size : Int) := by omega
      go_wp2_with fail
      go_round
      case rel => exact ⟨k + 1, by omega, by go_num⟩
      case measure => simp [intOf]; omega
    · obtain rfl : k = lst.length := by omega
      go_wp2_with fail
      refine H.out.2.2.1.mono ?_
      rintro e w2 ⟨rfl, nq, hw2⟩
      have H2 := Lib.hid (show Below w.heap.size w w2 by rw [hw2]; exact below_drewN (Below.refl _ _) nq)
      clear hw2
      go_wp2_with fail
      go_loopw [6] (fun i wr => ∃ k : Nat, k ≤ lst.length ∧ i = .int .i64 (k : Int) ∧ Hid ((Wl.run d fr n head (lst.take k)).2 = 0 ∧ E wr X (Wl.run d fr n head (lst.take k)).1 ∧ Only (fun j => ¬ X j) w wr)) (fun i _ => lst.length - (intOf i).toNat)
      case atStart => exact ⟨0, Nat.zero_le _, rfl, Lib.hid ⟨rfl, K.apart.below HD.out.1 H2.out, Only.of_none H2.out⟩⟩
      case round =>
        obtain ⟨k, hk, rfl, HK⟩ := hrel
        have hrow : RowV wr l 45 (lgC q ⟨fr, n, tail, head, L⟩ la cap) := rowV_only H.out.2.2.2.1 HK.out.2.2 fun hn => hn HD.out.2.2.2
        by_cases hlt : k < lst.length
        · obtain ⟨b, off, rfl, hc⟩ := HW.out.2.2.1 wr HK.out.2.2 k hlt
          have cP := fun wx => H.out.2.1 k hlt wx
          have cW := fun wx => HW.out.1 k hlt wx
          have hnx := HW.out.2.1 k hlt HK.out.1
          have hqm := Nat.mod_lt (head + k) hpos
          have hfr : fr + n ≤ 4096 := by have := HRR.out; have := (K.ok HD.out.1).most; omega
          have hs2 : IntKind.i64.wrap ((fr : Int) + (((head + k) % n : Nat) : Int)) = ((Wl.spot fr n (head + k) : Nat) : Int) := by rw [IntWalk.i64_in _ (by omega)]; unfold Wl.spot; omega
          obtain ⟨hrem, hn0⟩ := rem_of (head + k) n hpos
          have HKD := Lib.hid HK.out.2
          clear HK hqm hfr
          generalize ((Wl.spot fr n (head + k) : Nat) : Int) = P at *
          generalize Wl.stepE (Wl.run d fr n head (lst.take k)).1 fr n (head + k) lst[k] = Er at *
          generalize Wl.stepD (Wl.run d fr n head (lst.take k)).1 fr n (head + k) lst[k] = DD at *
          generalize Sl.putB (((head + k : Nat) : Int) + 1) lst[k] = B at *
          generalize lst[k] = x at *
          have c0 := rowV_cell hrow 0
          have c1 := rowV_cell hrow 1
          have c2 := rowV_cell hrow 2
          have c4 := rowV_cell hrow 4
          simp only [List.getElem?_cons_zero, List.getElem?_cons_succ] at c0 c1 c2 c4
          have hs : IntKind.i64.wrap ((head : Int) + (k : Int)) = ((head + k : Nat) : Int) := by rw [IntWalk.i64_in _ (by omega)]; omega
          obtain ⟨hd, hhd⟩ : ∃ m : Nat, m = head + k := ⟨_, rfl⟩
          rw [← hhd] at hs cP hrem hs2
          generalize hd % n = M at *
          have hhl : hd ≤ 1125900000000000 := by omega
          have HC := Lib.hid (And.intro cW (And.intro hnx (And.intro (rowV_lt hrow) cP)))
          clear cW hnx hhd hrow cP
          by_cases hE : Er = 0
          · have qq : (Er != 0) = false := by rw [hE]; rfl
            have HE := Lib.hid hE
            clear hE
            go_wp2_with fail
            refine (HC.out.2.2.2 _).mono ?_
            rintro e w3 ⟨rfl, hb3⟩
            have d0 := (hb3.cell (p := ⟨l, 0, none⟩) HC.out.2.2.1).trans c0
            have d1 := (hb3.cell (p := ⟨l, 1, none⟩) HC.out.2.2.1).trans c1
            have d2 := (hb3.cell (p := ⟨l, 2, none⟩) HC.out.2.2.1).trans c2
            have H3 := Lib.hid (And.intro (K.apart.below HKD.out.1 hb3) (And.intro (HKD.out.2.more (Only.of_none hb3)) (Nat.lt_of_lt_of_le HC.out.2.2.1 hb3.size)))
            clear hb3 c0 c1 c2 c4 hc
            go_wp2_with fail
            go_still_tail 16, (by kernel_rfl)
            change wpList _ _ _ _ _ w3.drew
            go_wp2_with fail
            refine (HC.out.1 _ (K.apart.below H3.out.1 (Below.refl _ _).drew)).mono ?_
            rintro e w4 ⟨rfl, h4, ho4⟩
            have H4 := Lib.hid (And.intro h4 (H3.out.2.1.more ((Only.refl _ _).drew.more ho4)))
            clear h4 ho4 d0 d1 d2
            go_wp2_with fail
            exact ⟨⟨k + 1, by omega, by go_num, Lib.hid (by rw [HC.out.2.1.1]; exact ⟨HE.out, H4.out.1, H4.out.2⟩)⟩, by simp [intOf]; omega⟩
          · have qq : (Er != 0) = true := by simpa using hE
            have HE := Lib.hid hE
            clear hE
            go_wp2_with fail
            refine (HC.out.2.2.2 _).mono ?_
            rintro e w3 ⟨rfl, hb3⟩
            have d0 := (hb3.cell (p := ⟨l, 0, none⟩) HC.out.2.2.1).trans c0
            have d1 := (hb3.cell (p := ⟨l, 1, none⟩) HC.out.2.2.1).trans c1
            have d2 := (hb3.cell (p := ⟨l, 2, none⟩) HC.out.2.2.1).trans c2
            have H3 := Lib.hid (And.intro (K.apart.below HKD.out.1 hb3) (And.intro (HKD.out.2.more (Only.of_none hb3)) (Nat.lt_of_lt_of_le HC.out.2.2.1 hb3.size)))
            clear hb3 c0 c1 c2 c4 hc
            go_wp2_with fail
            go_still_tail 16, (by kernel_rfl)
            change wpList _ _ _ _ _ w3.drew
            go_wp2_with fail
            refine (HC.out.1 _ (K.apart.below H3.out.1 (Below.refl _ _).drew)).mono ?_
            rintro e w4 ⟨rfl, h4, ho4⟩
            have H4 := Lib.hid (And.intro h4 (H3.out.2.1.more ((Only.refl _ _).drew.more ho4)))
            clear h4 ho4 d0 d1 d2
            go_wp2_with fail
            go_ret
            have hrun := HC.out.2.1.2 HE.out
            rw [HW.out.2.2.2.1 (by rw [hrun]; exact HE.out), hrun]
            exact ⟨rfl, rappP_disk K H4.out.1 HD.out.2.1 HD.out.2.2.1 H4.out.2⟩
        · obtain rfl : k = lst.length := by omega
          have hK := HK.out
          rw [List.take_length] at hK
          obtain ⟨k1, k2, k3⟩ := hK
          have e4 := HW.out.2.2.2.2 k1
          have hrd := HW.out.2.2.1 wr k3
          have hrec : RecAt wr S (fun x => x = l) la cap L := recAt_only H.out.2.2.2.2.1 k3 fun j _ hs hn => hn (HD.out.2.2.1 j hs)
          have hlow : ∀ a, ad = some a → lst ≠ [] → a.block < wr.heap.size := fun a hae hne => by
            obtain ⟨b, off, e, hc⟩ := hrd 0 (List.length_pos_iff.2 hne)
            rw [hae] at e; cases e
            exact World.block_lt_of_cell? wr _ hc
          have ha : Below wr.heap.size wr (wr.alloc (.cells #[] 9)) := (Below.refl _ _).alloc (Nat.le_refl _) _
          have hrow1 := rowV_below hrow ha (rowV_lt hrow)
          have c5 := rowV_cell hrow1 5
          simp only [List.getElem?_cons_zero, List.getElem?_cons_succ] at c5
          have HQ := Lib.hid (And.intro k2 (And.intro k3 (And.intro (readsS_below hrd ha) (And.intro (recAt_only hrec (Only.of_none (F := fun _ => False) ha) fun _ _ _ h => h) (And.intro hrow1 (And.intro ha (And.intro e4 (And.intro k1 hlow))))))))
          clear HK k1 k2 k3 hrd hrec hrow e4 ha hrow1 hlow
          go_wp2_with (first
            | (at_builtin
               refine wpList_append_rec (S := fun j => wr.heap.size ≤ j) (Av := fun x => x = l) rfl (.tmp 71) (.tmp 75) _ rfl i0 Try.underlying39 hi0 hz0 hz1 hz2 rfl (recAt_nil _ _ _ _) la cap L rfl (recAt_reads HQ.out.2.2.2.1) (by have := HRR.out; simp; omega) (fun j hj => by rw [hj]; exact rowV_lt HQ.out.2.2.2.2.1) ?_
               intro la5 cap5 w5 hR5 ho5
               have hr5 : RowV w5 l 45 (lgC q ⟨fr, n, tail, head, L⟩ la cap) := rowV_only HQ.out.2.2.2.2.1 ho5 (fun hn => hn.2 rfl)
               have hrd5 := readsS_up HQ.out.2.2.1 ho5 HQ.out.2.2.2.2.2.2.2.2
               have H5 := Lib.hid (And.intro hr5 (And.intro hR5 (And.intro ho5 hrd5)))
               clear hr5 hR5 ho5 hrd5)
            | (at_builtin
               refine wpList_append_rec rfl (.tmp 76) (.tmp 77) _ rfl i0 Try.underlying39 hi0 hz0 hz1 hz2 rfl H5.out.2.1 ad c lst rfl H5.out.2.2.2 (by have := HRR.out; simp; omega) (fun j hj => by rw [hj]; exact rowV_lt H5.out.1) ?_
               intro la6 cap6 w6 hR6 ho6
               have hr6 : RowV w6 l 45 (lgC q ⟨fr, n, tail, head, L⟩ la cap) := rowV_only H5.out.1 ho6 (fun hn => hn.2 rfl)
               have e6 := rowV_cell hr6 5
               have a6 := rowV_cell hr6 4
               have f5 := rowV_frozen hr6 5
               have f4 := rowV_frozen hr6 4
               simp only [List.getElem?_cons_zero, List.getElem?_cons_succ] at e6 a6
               have H6 := Lib.hid (And.intro hr6 (And.intro hR6 ho6))
               clear hr6 hR6 ho6 c5))
          go_ret
          obtain ⟨k2, k3, _, _, _, ha, e4, k1, _⟩ := HQ.out
          obtain ⟨hr6, hR6, ho6⟩ := H6.out
          have hb5 : Below wr.heap.size wr w5 := ha.trans (H5.out.2.2.1.below (fun j _ h => h.1) ha.size)
          have hb6 : Below wr.heap.size wr w6 := hb5.trans (ho6.below (fun j _ h => h.1.elim (fun h => h) fun h => Nat.le_trans ha.size h) hb5.size)
          rw [e4, k1]
          have hXl := HD.out.2.2.2
          have hgr := K.grow k2 (Only.of_none (F := X) hb6)
          have hset : ∀ (u v : Value), Only (fun j => j = l) w6 ((w6.setCell ⟨l, 5, none⟩ u).setCell ⟨l, 4, none⟩ v) := fun u v => ((Only.refl (fun j => j = l) w6).setCell (fun _ => rfl) u).setCell (fun _ => rfl) v
          have hS := H.out.2.2.2.2.2
          refine ⟨rfl, fun k => wr.heap.size ≤ k ∧ k < w6.heap.size, fun k hk => ⟨Nat.le_trans k3.size hk.1, Nat.lt_of_lt_of_le hk.2 (hset _ _).size⟩, ?_, ?_, ?_⟩
          · exact K.apart.at_ hgr (hset _ _) fun k e => .inl (e ▸ hXl)
          · refine ⟨la6, cap6, ?_, ?_, .inl hS⟩
            · have r := rowV_stored (rowV_stored hr6 5 (.slice la6 (L.length + lst.length) cap6)) 4 (.int .i64 ((head : Int) + (lst.length : Int)))
              have e : lgC q ⟨fr, n, tail, head + lst.length, L ++ lst⟩ la6 cap6 = ((lgC q ⟨fr, n, tail, head, L⟩ la cap).set 5 (.slice la6 (L.length + lst.length) cap6)).set 4 (.int .i64 ((head : Int) + (lst.length : Int))) := by
                show [_, _, _, _, Value.int .i64 ((head + lst.length : Nat) : Int), Value.slice _ (L ++ lst).length _] = [_, _, _, _, _, _]
                rw [List.length_append]; rfl
              unfold LgHead
              rw [e]; exact r
            · rcases hR6 with hx | ⟨g', A, r, a1, a2, a3, a4, a5, a6, a7⟩
              · exact .inl hx
              · refine .inr ⟨g', A, r, a1, rowV_only a2 (hset _ _) a6, a3, a4, a5, a6, .inr ⟨?_, rowV_lt a2⟩⟩
                exact a7.elim (fun h => h.elim (fun h => h) fun h => Nat.le_trans ha.size h) fun h => Nat.le_trans hb5.size h
          · exact (k3.mono fun k _ h => Or.inl h).trans (G := fun k => S k) ((Only.of_none (F := S) hb6).trans (hset _ _) fun k _ e => e ▸ hS) fun k _ h => .inr h
theorem rappend_any (K : DskR q E) (h : E w X d) (hl : LogAt 45 w S l q g) (hX : ∀ k, S k → X k) (hg : Wl.Good d.B.length g) (ad : Option Addr) (lst : List ByteArray) (c : Nat) (hr : ReadsS w ad lst) (had : ∀ a, ad = some a → lst ≠ [] → X a.block) (hlen : lst.length ≤ 1000)
    (hh : g.head + lst.length ≤ 1125900000000000) (hW : d.W.length + lst.length ≤ 1000000) :
    Calls Try.prog 33 #[.pointer (some ⟨l, 0, none⟩), .slice ad lst.length c] w fun e w' => e = .returned (.int .i64 (Wl.appE d g lst)) ∧ AppP 45 E X S l q (Wl.appG d g lst) (Wl.appD d g lst) w w' := by
  by_cases hb : lst.any Wl.big = true
  · exact rappend_big K h hl ad lst c hr hlen hb
  · have hb' : lst.any Wl.big = false := by cases h : lst.any Wl.big with | false => rfl | true => exact absurd h hb
    by_cases hroom : g.n - g.L.length < lst.length
    · exact rappend_full K h hl hg (by omega) ad lst c hr hlen hb' hroom
    · exact rappend_yes K h hl hX hg ad lst c hr had hlen hh hW hb' hroom
end
end Go.Proofs.Ytednmncapfclfaa
