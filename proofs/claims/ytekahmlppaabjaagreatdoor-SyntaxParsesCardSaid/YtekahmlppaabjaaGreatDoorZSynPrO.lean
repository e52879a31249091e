/-
  Layer 14, the program's: Parse.
-/
import Derived.Test.YtekahmlppaabjaaGreatDoorZSynPrA
import Derived.Test.YtekahmlppaabjaaGreatDoorZSynDeep
import Derived.Test.YtekahmlppaabjaaGreatDoorPk6
namespace Go.Proofs.YtekahmlppaabjaaGreatDoor
open Go.RowKit
open Sx (X toksOf isT)
namespace Lx
theorem lex_len : ∀ (k a : Nat) (l : List UInt8), (lex k a l).1.length ≤ k
  | 0, _, _ => Nat.le_refl _
  | _ + 1, _, [] => Nat.zero_le _
  | k + 1, a, c :: r => by
    by_cases hc : c = 32
    · subst hc
      rw [lex_blank]
      have := lex_len k (a + 1) r
      omega
    · by_cases he : (one (c :: r)).2.2 = 0
      · rw [lex_more hc he]
        split
        · exact Nat.zero_le _
        · have := lex_len k (a + (one (c :: r)).2.1) ((c :: r).drop (one (c :: r)).2.1)
          simp only [List.length_cons]
          omega
      · rw [lex_err hc he]; exact Nat.zero_le _
theorem right_size {t : T} (h : right t) : t.s.size ≤ 1000000 := by
  obtain ⟨k, s, n, a⟩ := t
  rcases h with ⟨rfl, _, _, _, h⟩ | ⟨rfl, h, h2⟩ | ⟨rfl, _, h9⟩ | ⟨rfl, h, _⟩
  · have : s.size ≤ 16 := h
    show s.size ≤ _; omega
  · have : s = Vl.mt := h2
    show s.size ≤ _; rw [this]; exact Nat.zero_le _
  · have : s.size ≤ 40 := h9.1
    show s.size ≤ _; omega
  · have hm : ∀ m ∈ marks, m.length ≤ 85 := by decide
    have h1 := hm _ h
    have hl : s.data.toList.length = s.size := Array.length_toList ..
    show s.size ≤ _
    have h2 : s.data.toList.length ≤ 85 := h1
    omega
theorem laid_spots : ∀ (m : List T) (s : List UInt8) (e : Nat), Laid s e m → ∀ t ∈ m, 0 ≤ t.spot ∧ t.spot ≤ s.length
  | [], _, _, _, _, ht => by cases ht
  | u :: m, s, e, h, t, ht => by
    obtain ⟨a, h0, _, h2, _, _, _, _, h3⟩ := h
    rcases List.mem_cons.1 ht with rfl | ht
    · rw [h0]; omega
    · exact laid_spots m s _ h3 t ht
end Lx
/-- the tokens of a text -/
theorem lexS_toks (s : ByteArray) : (∀ t ∈ (lexS s).1, (Lx.right t ∧ t.n ≤ Lx.maxI) ∧ t.s.size ≤ 1000000 ∧ 0 ≤ t.spot ∧ t.spot ≤ s.size) ∧ (lexS s).1.length ≤ 200 ∧ ((lexS s).2.2 ≠ 0 → 0 ≤ (lexS s).2.1 ∧ (lexS s).2.1 ≤ s.size) := by
  have hl : s.data.toList.length = s.size := Array.length_toList ..
  by_cases h : (lexS s).2.2 = 0
  · obtain ⟨_, h2⟩ := lexS_laid h
    refine ⟨fun t ht => ?_, ?_, fun h3 => absurd h h3⟩
    · have h4 := Lx.laid_right _ _ _ h2 t ht
      have h5 := Lx.laid_spots _ _ _ h2 t ht
      exact ⟨h4, Lx.right_size h4.1, h5.1, by omega⟩
    · unfold lexS
      split
      · exact Nat.zero_le _
      · have h6 := Lx.lex_len s.data.toList.length 0 s.data.toList
        show (Lx.lex s.data.toList.length 0 s.data.toList).1.length ≤ 200
        omega
  · obtain ⟨h1, p, h2, h3⟩ := lexS_place h
    rw [h1]
    exact ⟨fun t ht => absurd ht List.not_mem_nil, Nat.zero_le _, fun _ => by rw [h2]; omega⟩
mutual
/-- an unmarked row has no frozen cell -/
theorem xok_of_xat {w : World} : ∀ (x : X) (ad : Option Addr), XAt w (fun j => ∃ cs T, w.heap[j]? = some (.cells cs T (0, 0))) x ad → XOk w w.heap.size False x ad
  | .mk _ _ _ l, ad, h => by
    rw [XAt] at h; rw [XOk]
    rcases h with h | ⟨b, o, h1, h2, h3⟩
    · exact .inl h
    · obtain ⟨cs, T, h4⟩ := h2
      exact .inr ⟨b, o, h1, (Array.getElem?_eq_some_iff.1 h4).1, .inr ⟨cs, T, h4⟩, lok_of_lat l b o cs T h4 h3⟩
theorem lok_of_lat {w : World} : ∀ (l : List X) (b o : Nat) (cs : Array Value) (T : TypeId), w.heap[b]? = some (.cells cs T (0, 0)) → LAt w (fun j => ∃ cs T, w.heap[j]? = some (.cells cs T (0, 0))) l b o → LOk w w.heap.size False l b o
  | [], _, _, _, _, _, _ => by rw [LOk]; trivial
  | x :: r, b, o, cs, T, hb, h => by
    rw [LAt] at h; rw [LOk]
    obtain ⟨⟨a, c, h1, h2⟩, h3⟩ := h
    exact ⟨by unfold World.frozen?; rw [hb]; simp, ⟨a, c, h1, xok_of_xat x a h2⟩, lok_of_lat r b (o + 6) cs T hb h3⟩
end
/-- a token does not stand where an expression stands -/
theorem tok_not_x {w : World} {N b k : Nat} {x : X} {a : Option Addr} {c : Nat} {t1 t3 : Int} {t2 : ByteArray} (hr : RowV w N 29 (xC x a c).toList) (h0 : w.cell? ⟨b, k, none⟩ = some (.int .i64 t1)) (h1 : w.cell? ⟨b, k + 1, none⟩ = some (.string t2)) (h2 : w.cell? ⟨b, k + 2, none⟩ = some (.int .i64 t3)) : ¬ b = N := by
  intro e
  subst e
  rw [rowV_cell hr] at h0 h1 h2
  match k with
  | 0 => simp at h1
  | 1 => simp at h1
  | 2 => simp at h2
  | 3 => simp at h0
  | 4 => simp at h0
  | 5 => simp at h0
  | k + 6 => simp at h0
/-- what Parse tells -/
def ParseP (t : X × Int × Int) (w : World) (e : Ending) (w' : World) : Prop :=
  ∃ a c, e = .returned (.tuple #[xV t.1 a c, .int .i64 t.2.1, .int .i64 t.2.2]) ∧ XAt w' (fun j => w.heap.size ≤ j ∧ ∃ cs T, w'.heap[j]? = some (.cells cs T (0, 0))) t.1 a ∧ Below w.heap.size w w'
set_option maxRecDepth 100000 in
set_option maxHeartbeats 12800000 in
theorem parse14_any (s : ByteArray) (w : World) (hTw : Twos w) (hE : ErrR w) : Calls Tryz.prog 5 #[.string s] w (ParseP (Sx.parseT s.size (lexS s)) w) := by
  obtain ⟨a1, a2, a3⟩ := no_new w
  have HA := Lib.hid (And.intro a1 (And.intro a2 a3))
  have cL := lex13_any s (w.alloc (.cells #[.int .i64 0, .int .i64 0, .int .i64 0, .string ⟨#[]⟩, .string ⟨#[]⟩, .slice none 0 0] 29)) (errR_below hE a2)
  have htk := lexS_toks s
  have HI := Lib.hid (And.intro hTw (And.intro hE htk))
  have HL := Lib.hid cL
  clear a1 a2 a3 hTw hE cL htk
  obtain ⟨ll, hll⟩ : ∃ ll, lexS s = ll := ⟨_, rfl⟩
  rw [hll] at HI HL ⊢
  clear hll
  obtain ⟨L, pl, el⟩ := ll
  obtain ⟨PT, hPT⟩ : ∃ PT, Sx.parseT s.size (L, pl, el) = PT := ⟨_, rfl⟩
  rw [hPT]
  have HPT := Lib.hid hPT
  clear hPT
  go_enter Tryz.func5, Tryz.ntmps5
  go_upto_region 1 with (fail)
  generalize hw0 : World.alloc w _ = w0 at *
  go_wp2_with fail
  refine HL.out.mono ?_
  rintro e w1 ⟨al, cap, rfl, hr1, hc1, hb1⟩
  replace hr1 : ReadsT13 w1 al L := hr1
  replace hc1 : L.length ≤ cap := hc1
  dsimp only
  have hs0 := HA.out.2.2
  have hN1 := rowV_below HA.out.1 hb1 (by omega)
  have hB1 := HA.out.2.1.trans (hb1.mono (by omega))
  by_cases he : el = 0
  · subst he
    have hLl : L.length ≤ 200 := HI.out.2.2.2.1
    have cR := Read14_any (al := al) (cap := cap) 0 0 hr1 (Nat.zero_le _) (Nat.zero_le _) (by omega) (fun t ht => (HI.out.2.2.1 t ht).1) (fun t ht => (HI.out.2.2.1 t ht).2.1) (twos_below HI.out.1 hB1) (errR_below HI.out.2.1 hB1)
    have hfx := Sx.readE_facts (L := L) fun t ht => (HI.out.2.2.1 t ht).1
    have hpT : PT = if h : (Sx.readE L 0 0).2 < L.length then (Sx.no, (L[(Sx.readE L 0 0).2]).spot, (11 : Int)) else match (Sx.readE L 0 0).1 with | none => (Sx.no, (s.size : Int), (11 : Int)) | some x => if 12 < Sx.deep x then (Sx.no, (0 : Int), (12 : Int)) else (x, (0 : Int), (0 : Int)) := by
      rw [← HPT.out]; unfold Sx.parseT; rw [if_neg (by simp)]; rfl
    have H1 := Lib.hid (And.intro hN1 (And.intro hB1 (And.intro hr1 (And.intro cR (And.intro hpT hfx)))))
    clear hr1 hc1 hb1 hN1 hB1 cR hpT hfx HPT
    generalize Sx.readE L 0 0 = rr at H1
    obtain ⟨ro, q⟩ := rr
    go_wp2_with fail
    refine H1.out.2.2.2.1.mono ?_
    rintro e w2 ⟨a2, c2, rfl, hx2, hb2⟩
    dsimp only
    generalize hEE : (if ro.isNone = true then (11 : Int) else 0) = EE
    have HEE := Lib.hid hEE
    clear hEE
    have hqL : q ≤ L.length := H1.out.2.2.2.2.2.1
    have hN2 := rowV_below H1.out.1 hb2 (rowV_lt H1.out.1)
    have hB2 := H1.out.2.1.trans (hb2.mono H1.out.2.1.size)
    have hT2 := readsT13_below H1.out.2.2.1 hb2
    have hxn := x_new (ro.getD Sx.no) a2 c2 w2
    have hN3 := rowV_below hN2 hxn.2.1 (rowV_lt hN2)
    have hT3 := readsT13_below hT2 hxn.2.1
    obtain ⟨f0, f1, f2, f3, f4, f5⟩ := x_ice hN3
    obtain ⟨e0, e1, e2, e3, e4, e5⟩ := x_cells hN3
    obtain ⟨g0, g1, g2, g3, g4, g5⟩ := x_cells hxn.1
    simp only [Nat.zero_add] at e0 e1 e2 e3 e4 e5 g0 g1 g2 g3 g4 g5
    have H2 := Lib.hid (And.intro hN3 (And.intro (hB2.trans (hxn.2.1.mono hB2.size)) (And.intro hx2 (And.intro hT3 (And.intro hxn.2.1 hB2)))))
    clear hN2 hB2 hT2 hxn hN3 hT3 hx2 hb2
    generalize hY : ro.getD Sx.no = Y at *
    have HY := Lib.hid hY
    clear hY
    by_cases hq : q < L.length
    · have t1 : decide ((q : Int) < (L.length : Int)) = true := decide_eq_true (by omega)
      have HPQ := Lib.hid (H1.out.2.2.2.2.1.trans (dif_pos hq))
      obtain ⟨b, off, rfl, d0, d1, d2, d3⟩ := H2.out.2.2.2.1 q hq
      obtain ⟨sp, hsp⟩ : ∃ sp, L[q].spot = sp := ⟨_, rfl⟩
      rw [hsp] at d3
      have HSP := Lib.hid hsp
      have hbn : ¬ b = w.heap.size := tok_not_x H2.out.1 d0 d1 d2
      clear hsp d0 d1 d2
      go_wp2_with fail
      go_region
      go_wp2_with fail
      have hE := x_put H2.out.1 0 0 0 ⟨#[]⟩ ⟨#[]⟩ none 0 0
      have ho := hE.2 (fun k => k = w.heap.size) rfl
      have hb := H2.out.2.1.trans (ho.below (fun k _ e => by have e2 : k = w.heap.size := e; omega) H2.out.2.1.size)
      refine bodyPost_ret (v := .tuple #[xV Sx.no none 0, .int .i64 sp, .int .i64 11]) (results_x3 (p := 2) (u := 3) (x := 4) rfl _ _ w.heap.size Sx.no none 0 rfl (rowV_below hE.1 (Below.refl _ _).drew (rowV_lt hE.1))) rfl ?_
      rw [HPQ.out, ← HSP.out]
      exact ⟨none, 0, rfl, xat_no _ _ _, hb.drew⟩
    · have t1 : decide ((q : Int) < (L.length : Int)) = false := decide_eq_false (by omega)
      have HPQ := Lib.hid (H1.out.2.2.2.2.1.trans (dif_neg hq))
      cases ro with
      | none =>
        obtain rfl : EE = 11 := HEE.out.symm
        go_wp2_with fail
        have hE := x_put H2.out.1 0 0 0 ⟨#[]⟩ ⟨#[]⟩ none 0 0
        have ho := hE.2 (fun k => k = w.heap.size) rfl
        have hb := H2.out.2.1.trans (ho.below (fun k _ e => by have e2 : k = w.heap.size := e; omega) H2.out.2.1.size)
        refine bodyPost_ret (v := .tuple #[xV Sx.no none 0, .int .i64 (s.size : Nat), .int .i64 11]) (results_x3 (p := 2) (u := 3) (x := 4) rfl _ _ w.heap.size Sx.no none 0 rfl hE.1) rfl ?_
        rw [HPQ.out]
        exact ⟨none, 0, rfl, xat_no _ _ _, hb⟩
      | some x0 =>
        obtain rfl : x0 = Y := HY.out
        obtain rfl : EE = 0 := HEE.out.symm
        obtain ⟨hxr, hxf, hxd⟩ := H1.out.2.2.2.2.2.2 x0 rfl
        have hfine := Sx.fine_right _ x0 (Nat.le_refl _) hxr hxf
        have hX0 := xok_of_xat x0 a2 (xat_mono (fun j hj => hj.2) x0 a2 H2.out.2.2.1)
        have hX := xok_same (W := w2.alloc (.cells (xC x0 a2 c2) 29)) H2.out.2.2.2.2.1.size (fun j hj => H2.out.2.2.2.2.1.block j hj) x0 a2 hX0
        have cD := deep14_any x0 a2 c2 _ hX hfine (by omega)
        have HD := Lib.hid cD
        clear hX0 hX cD hxr hxf hfine
        go_wp2_with fail
        refine HD.out.mono ?_
        rintro e w4 ⟨dp, rfl, hb4, hdp⟩
        have hN4 := rowV_below H2.out.1 hb4 (rowV_lt H2.out.1)
        have hB4 := H2.out.2.1.trans (hb4.mono H2.out.2.1.size)
        obtain ⟨k0, k1, k2, k3, k4, k5⟩ := x_ice hN4
        obtain ⟨m0, m1, m2, m3, m4, m5⟩ := x_cells hN4
        have hxn := (x_new x0 a2 c2 w2)
        have hxn4 := rowV_below hxn.1 hb4 (by have := hxn.2.2; omega)
        obtain ⟨n0, n1, n2, n3, n4, n5⟩ := x_cells hxn4
        simp only [Nat.zero_add] at m0 m1 m2 m3 m4 m5 n0 n1 n2 n3 n4 n5
        have hu4 : ∀ j : Nat, (∃ cs T, w2.heap[j]? = some (Obj.cells cs T (0, 0))) → ∃ cs T, w4.heap[j]? = some (Obj.cells cs T (0, 0)) := fun j ⟨cs, T, h⟩ => by
          have hj := (Array.getElem?_eq_some_iff.1 h).1
          exact ⟨cs, T, (hb4.block j (by have := hxn.2.2; omega)).trans ((hxn.2.1.block j hj).trans h)⟩
        have hX4 : XAt w4 (fun j => (w.heap.size < j ∧ j ≠ w.heap.size) ∧ ∃ cs T, w4.heap[j]? = some (.cells cs T (0, 0))) x0 a2 := by
          have h1 := xat_below (xat_below H2.out.2.2.1 hxn.2.1) hb4
          refine xat_mono (fun j hj => ?_) x0 a2 h1
          have hj1 : w1.heap.size ≤ j := hj.1
          have hw1 := rowV_lt H1.out.1
          exact ⟨⟨by omega, by omega⟩, hu4 j hj.2⟩
        have H4 := Lib.hid (And.intro hN4 (And.intro hB4 (And.intro hX4 (hdp.resolve_right id))))
        clear hN4 hB4 hX4 hb4 hdp hxn hxn4 hu4
        have hpT := HPQ.out
        try dsimp only at hpT
        rw [← H4.out.2.2.2] at hpT
        by_cases h12 : 12 < dp
        · have t12 : decide ((dp : Int) > 12) = true := decide_eq_true (by omega)
          have t12' : decide ((12 : Int) < (dp : Int)) = true := decide_eq_true (by omega)
          have HF := Lib.hid (hpT.trans (if_pos h12))
          clear hpT
          go_wp2_with fail
          have hE := x_put H4.out.1 0 0 0 ⟨#[]⟩ ⟨#[]⟩ none 0 0
          have ho := hE.2 (fun k => k = w.heap.size) rfl
          have hb := H4.out.2.1.trans (ho.below (fun k _ e => by have e2 : k = w.heap.size := e; omega) H4.out.2.1.size)
          refine bodyPost_ret (v := .tuple #[xV Sx.no none 0, .int .i64 0, .int .i64 12]) (results_x3 (p := 2) (u := 3) (x := 4) rfl _ _ w.heap.size Sx.no none 0 rfl hE.1) rfl ?_
          rw [HF.out]
          exact ⟨none, 0, rfl, xat_no _ _ _, hb⟩
        · have t12 : decide ((dp : Int) > 12) = false := decide_eq_false (by omega)
          have t12' : decide ((12 : Int) < (dp : Int)) = false := decide_eq_false (by omega)
          have HF := Lib.hid (hpT.trans (if_neg h12))
          clear hpT
          go_wp2_with fail
          have hE := x_put H4.out.1 x0.op x0.v.kind x0.v.n x0.v.s x0.s a2 x0.l.length c2
          have ho := hE.2 (fun k => k = w.heap.size) rfl
          have hb := H4.out.2.1.trans (ho.below (fun k _ e => by have e2 : k = w.heap.size := e; omega) H4.out.2.1.size)
          refine bodyPost_ret (v := .tuple #[xV x0 a2 c2, .int .i64 0, .int .i64 0]) (results_x3 (p := 2) (u := 3) (x := 4) rfl _ _ w.heap.size x0 a2 c2 rfl hE.1) rfl ?_
          rw [HF.out]
          refine ⟨a2, c2, rfl, ?_, hb⟩
          have h1 := xat_only ho (fun j hj e => hj.1.2 e) x0 a2 H4.out.2.2.1
          exact xat_mono (fun j hj => ⟨by omega, um_only ho hj.2 fun e => hj.1.2 e⟩) x0 a2 h1
  · have t0 : (el != 0) = true := by simp; exact he
    have hpT : PT = (Sx.no, pl, el) := HPT.out.symm.trans (if_pos he)
    have H1 := Lib.hid (And.intro hN1 (And.intro hB1 hpT))
    obtain ⟨f0, f1, f2, f3, f4, f5⟩ := x_ice hN1
    obtain ⟨e0, e1, e2, e3, e4, e5⟩ := x_cells hN1
    simp only [Nat.zero_add] at e0 e1 e2 e3 e4 e5
    clear hr1 hc1 hb1 hN1 hB1 he hpT HPT
    go_wp2_with fail
    have hE := x_put H1.out.1 0 0 0 ⟨#[]⟩ ⟨#[]⟩ none 0 0
    have ho := hE.2 (fun k => k = w.heap.size) rfl
    have hb := H1.out.2.1.trans (ho.below (fun k _ e => by have e2 : k = w.heap.size := e; omega) H1.out.2.1.size)
    refine bodyPost_ret (v := .tuple #[xV Sx.no none 0, .int .i64 pl, .int .i64 el]) (results_x3 (p := 2) (u := 3) (x := 4) rfl _ _ w.heap.size Sx.no none 0 rfl hE.1) rfl ?_
    rw [H1.out.2.2]
    exact ⟨none, 0, rfl, xat_no _ _ _, hb⟩
end Go.Proofs.YtekahmlppaabjaaGreatDoor
