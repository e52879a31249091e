/-
  Layer 15: which columns there may be: the program's Columns, and the document's.
-/
import Derived.Test.YtmkckbidfpinfaaDoorZTypBack
import Derived.Test.YtmkckbidfpinfaaDoorPk4
import Derived.Test.YtmkckbidfpinfaaDoorPk2
namespace Go.Proofs.YtmkckbidfpinfaaDoor
open Go.RowKit Go.Shelf
attribute [local go_sem] Oper.semAt_some
namespace Ty
/-- why a column may not be: the names ahead of it, its own, its kind -/
def badC (pre : List ByteArray) (nm : ByteArray) (k : Int) : Int := if (Lx.nameB nm && !(pre.any fun a => decide (a = nm))) = true then (if 1 ≤ k ∧ k ≤ 3 then 0 else 14) else 13
def bad (L : List ColV) (j : Nat) : Int := badC ((L.take j).map (·.name)) (L.getD j ⟨Vl.mt, 0, none, 0, 0⟩).name (L.getD j ⟨Vl.mt, 0, none, 0, 0⟩).kind
/-- why columns may not be -/
def ColsR (L : List ColV) (r : Int) : Prop := (6 < L.length ∧ r = 24) ∨ (L.length ≤ 6 ∧ ((∃ k, k < L.length ∧ (∀ j, j < k → bad L j = 0) ∧ bad L k = r ∧ r ≠ 0) ∨ ((∀ j, j < L.length → bad L j = 0) ∧ r = 0)))
theorem colsR_one {L : List ColV} {r q : Int} (h : ColsR L r) (g : ColsR L q) : r = q := by
  rcases h with ⟨h1, h2⟩ | ⟨h1, h2⟩
  · rcases g with ⟨g1, g2⟩ | ⟨g1, g2⟩
    · rw [h2, g2]
    · omega
  · rcases g with ⟨g1, g2⟩ | ⟨g1, g2⟩
    · omega
    · rcases h2 with ⟨k, hk, hk1, hk2, hk3⟩ | ⟨hk, h3⟩
      · rcases g2 with ⟨m, hm, hm1, hm2, hm3⟩ | ⟨hm, g3⟩
        · rcases Nat.lt_trichotomy k m with h | h | h
          · exact absurd (hk2.symm.trans (hm1 k h)) hk3
          · subst h; rw [← hk2, hm2]
          · exact absurd (hm2.symm.trans (hk1 m h)) hm3
        · exact absurd (hk2.symm.trans (hm k hk)) hk3
      · rcases g2 with ⟨m, hm, hm1, hm2, hm3⟩ | ⟨hm, g3⟩
        · exact absurd (hm2.symm.trans (hk m hm)) hm3
        · rw [h3, g3]
theorem bad_at {L : List ColV} {k : Nat} (h : k < L.length) : bad L k = badC ((L.take k).map (·.name)) L[k].name L[k].kind := by unfold bad; rw [List.getD_eq_getElem?_getD, List.getElem?_eq_getElem h]; rfl
theorem bad_13a {L : List ColV} {k : Nat} (h : k < L.length) (h1 : Lx.nameB L[k].name = false) : bad L k = 13 := by rw [bad_at h]; unfold badC; rw [h1]; rfl
theorem bad_13b {L : List ColV} {k : Nat} (h : k < L.length) (h1 : (L.take k).any (fun c => decide (c.name = L[k].name)) = true) : bad L k = 13 := by
  rw [bad_at h]; unfold badC
  have : ((L.take k).map (·.name)).any (fun a => decide (a = L[k].name)) = true := by rw [List.any_map]; exact h1
  rw [this, Bool.not_true, Bool.and_false]; rfl
theorem bad_14 {L : List ColV} {k : Nat} (h : k < L.length) (h0 : Lx.nameB L[k].name = true) (h1 : (L.take k).any (fun c => decide (c.name = L[k].name)) = false) : bad L k = if 1 ≤ L[k].kind ∧ L[k].kind ≤ 3 then 0 else 14 := by
  rw [bad_at h]; unfold badC
  have : ((L.take k).map (·.name)).any (fun a => decide (a = L[k].name)) = false := by rw [List.any_map]; exact h1
  rw [this, h0]; rfl
end Ty
theorem readsC_at {w : World} {al : Option Addr} {L : List ColV} (h : ReadsC w al L) {k : Nat} (hk : k < L.length) : ∃ b off, al = some ⟨b, off, none⟩ ∧ w.cell? ⟨b, off + k * 3, none⟩ = some (.string L[k].name) ∧ w.cell? ⟨b, off + k * 3 + 1, none⟩ = some (.int .i64 L[k].kind) ∧ w.cell? ⟨b, off + k * 3 + 2, none⟩ = some (.slice L[k].oa L[k].on L[k].oc) := h k hk
theorem readsC_take {w : World} {al : Option Addr} {L : List ColV} (h : ReadsC w al L) (k : Nat) : ReadsC w al (L.take k) := fun i hi => by
  rw [List.length_take] at hi
  obtain ⟨b, off, e, h0, h1, h2⟩ := h i (by omega)
  rw [List.getElem_take]
  exact ⟨b, off, e, h0, h1, h2⟩
theorem col_size15 : (Tryd.prog.info? 49).map (·.size) = some 3 := by kernel_rfl
theorem elem_col15 : Tryd.prog.elem 22 = 49 := by kernel_rfl
theorem slice_frontC15 (la : Option Addr) (n cap k : Nat) (hk : k ≤ cap) (w : World) : (Instr.slice 22 (.slice la n cap) none (some (.int .i64 (k : Int))) none).run Tryd.prog w = .ok (.slice la k cap) w := by
  obtain ⟨i0, hi0, hz⟩ := Option.map_eq_some_iff.1 col_size15
  rw [run_slice_h (P := Tryd.prog) w 22 la n cap (by rw [elem_col15]; exact Tryd.underlying22) .i64 k (by omega) (by omega)]
  cases la <;> simp [elem_col15, sizeOf, typeInfo, hi0, Result.andThen, sliced, Addr.add]
set_option maxRecDepth 100000 in
theorem cols15_fn (c : ColV) (nm : ByteArray) (g : Nat) (w : World) (hc : w.cell? ⟨g, 0, none⟩ = some (.string nm)) :
    Calls Tryd.prog 24 #[colV c, .pointer (some ⟨g, 0, none⟩)] w fun e w' => e = .returned (.bool (decide (c.name = nm))) ∧ Below w.heap.size w w' := by
  have hb : Below w.heap.size w (w.alloc (.cells #[.string c.name, .int .i64 c.kind, .slice c.oa c.on c.oc] 49)) := (Below.refl _ _).alloc (Nat.le_refl _) _
  have hg := (hb.cell (p := ⟨g, 0, none⟩) (World.block_lt_of_cell? _ _ hc)).trans hc
  have hlt : g < w.heap.size := World.block_lt_of_cell? _ _ hc
  have HB := Lib.hid hb
  clear hb
  by_cases h : c.name = nm
  · rw [decide_eq_true h]
    subst h
    go_enter Tryd.func24, Tryd.ntmps24
    go_wp2_with fail
    go_ret
    exact ⟨rfl, HB.out⟩
  · have g1 := str_neq h
    have g2 : (c.name.toList == nm.toList) = false := by simpa using g1
    rw [decide_eq_false h]
    go_enter Tryd.func24, Tryd.ntmps24
    go_wp2_with fail
    go_ret
    exact ⟨rfl, HB.out⟩
/-- is one among them of that name? -/
def IxC (L : List ColV) (nm : ByteArray) (w : World) (e : Ending) (w' : World) : Prop :=
  ∃ r : Int, e = .returned (.int .i64 r) ∧ decide (r ≥ 0) = (L.any fun c => decide (c.name = nm)) ∧ Below w.heap.size w w'
theorem ixC_yes {L : List ColV} {nm : ByteArray} {k : Nat} (hk : k < L.length) (h : L[k].name = nm) : decide ((k : Int) ≥ 0) = (L.any fun c => decide (c.name = nm)) := by
  rw [decide_eq_true (by omega), eq_comm, List.any_eq_true]
  exact ⟨L[k], List.getElem_mem hk, decide_eq_true h⟩
theorem ixC_no {L : List ColV} {nm : ByteArray} (h : ∀ j (hj : j < L.length), L[j].name ≠ nm) : decide ((-1 : Int) ≥ 0) = (L.any fun c => decide (c.name = nm)) := by
  rw [decide_eq_false (by omega), eq_comm, List.any_eq_false]
  intro c hc
  obtain ⟨j, hj, e⟩ := List.mem_iff_getElem.1 hc
  rw [decide_eq_true_eq, ← e]
  exact h j hj
set_option maxRecDepth 100000 in
set_option maxHeartbeats 3200000 in
theorem indexC15_any (nm : ByteArray) (g : Nat) (L : List ColV) (al : Option Addr) (n cap : Nat) (hn : L.length = n) (hl : n ≤ 1000000) (w : World) (hc : w.cell? ⟨g, 0, none⟩ = some (.string nm)) (hR : ReadsC w al L) :
    Calls Tryd.prog 43 #[.slice al n cap, .func (.func 24) #[] #[.pointer (some ⟨g, 0, none⟩)]] w (IxC L nm w) := by
  have HR := Lib.hid (And.intro hR (And.intro hc hn))
  clear hR hc hn
  go_enter Tryd.func43, Tryd.ntmps43
  go_wp2_with fail
  go_loopw [8] (fun i wr => ∃ k : Nat, i = .int .i64 (k : Int) ∧ k ≤ n ∧ Hid (∀ j (hj : j < L.length), j < k → L[j].name ≠ nm) ∧ Hid (Below w.heap.size w wr)) (fun i _ => n - (intOf i).toNat)
  case atStart => exact ⟨0, rfl, Nat.zero_le _, Lib.hid (fun j _ h => by omega), Lib.hid (Below.refl _ _)⟩
  case round =>
    obtain ⟨k, rfl, hk, HK, HB⟩ := hrel
    by_cases hlt : k < n
    · have hlt2 : k < L.length := by rw [HR.out.2.2]; exact hlt
      obtain ⟨b, off, rfl, c0, c1, c2⟩ := readsC_below HR.out.1 HB.out k hlt2
      have hF := cols15_fn L[k] nm g wr ((HB.out.cell (World.block_lt_of_cell? _ _ HR.out.2.1)).trans HR.out.2.1)
      by_cases he : L[k].name = nm
      · have HN := Lib.hid (ixC_yes hlt2 he)
        rw [decide_eq_true he] at hF
        have HF := Lib.hid hF
        clear hF he
        generalize L[k] = y at *
        obtain ⟨y1, y2, y3, y4, y5⟩ := y
        dsimp only at c0 c1 c2 HF
        go_wp2_with fail
        refine HF.out.mono ?_
        rintro e w1 ⟨rfl, hb1⟩
        have H1 := Lib.hid (HB.out.trans (hb1.mono HB.out.size))
        clear hb1
        go_wp2_with fail
        go_ret
        exact ⟨_, rfl, HN.out, H1.out⟩
      · have HN : Hid (∀ j (hj : j < L.length), j < k + 1 → L[j].name ≠ nm) := Lib.hid (fun j hj h => by
          by_cases e : j = k
          · subst e; exact he
          · exact HK.out j hj (by omega))
        rw [decide_eq_false he] at hF
        have HF := Lib.hid hF
        clear hF he
        generalize L[k] = y at *
        obtain ⟨y1, y2, y3, y4, y5⟩ := y
        dsimp only at c0 c1 c2 HF
        go_wp2_with fail
        refine HF.out.mono ?_
        rintro e w1 ⟨rfl, hb1⟩
        have H1 := Lib.hid (HB.out.trans (hb1.mono HB.out.size))
        clear hb1
        go_wp2_with fail
        go_roundw
        case rel => exact ⟨k + 1, by go_num, by omega, HN, H1⟩
        case measure => simp only [intOf]; omega
    · obtain rfl : k = n := by omega
      have HN := Lib.hid (ixC_no (L := L) (nm := nm) (fun j hj => HK.out j hj (by have := HR.out.2.2; omega)))
      go_wp2_with fail
      go_ret
      exact ⟨_, rfl, HN.out, HB.out⟩
set_option maxRecDepth 100000 in
theorem containsC15_any (nm : ByteArray) (g : Nat) (L : List ColV) (al : Option Addr) (n cap : Nat) (hn : L.length = n) (hl : n ≤ 1000000) (w : World) (hc : w.cell? ⟨g, 0, none⟩ = some (.string nm)) (hR : ReadsC w al L) :
    Calls Tryd.prog 26 #[.slice al n cap, .func (.func 24) #[] #[.pointer (some ⟨g, 0, none⟩)]] w fun e w' => e = .returned (.bool (L.any fun c => decide (c.name = nm))) ∧ Below w.heap.size w w' := by
  have HI := Lib.hid (indexC15_any nm g L al n cap hn hl w hc hR)
  clear hn hc hR
  go_enter Tryd.func26, Tryd.ntmps26
  go_wp2_with fail
  refine HI.out.mono ?_
  rintro e w1 ⟨r, rfl, hr, hb1⟩
  have H1 := Lib.hid hb1
  clear hb1
  cases hB : (L.any fun c => decide (c.name = nm)) with
  | true =>
    have HB := Lib.hid hB
    rw [hB] at hr
    clear hB
    go_wp2_with fail
    go_ret
    exact ⟨ret_bool HB.out.symm, H1.out⟩
  | false =>
    have HB := Lib.hid hB
    rw [hB] at hr
    clear hB
    go_wp2_with fail
    go_ret
    exact ⟨ret_bool HB.out.symm, H1.out⟩
set_option maxRecDepth 100000 in
set_option maxHeartbeats 6400000 in
theorem columns15_any (L : List ColV) (al : Option Addr) (n cap : Nat) (hn : L.length = n) (hcap : n ≤ cap) (hl : n ≤ 1000000) (hN : ∀ c ∈ L, c.name.size ≤ 1000000) (w : World) (hR : ReadsC w al L) (hE : ErrR w) :
    Calls Tryd.prog 8 #[.slice al n cap] w fun e w' => (∃ r : Int, e = .returned (.int .i64 r) ∧ Ty.ColsR L r) ∧ Below w.heap.size w w' := by
  have HR := Lib.hid (And.intro hR (And.intro hn (And.intro hE hN)))
  clear hR hE hN
  by_cases h6 : 6 < n
  · have t1 : decide ((n : Int) > 6) = true := decide_eq_true (by omega)
    have HX : Hid (Ty.ColsR L 24) := Lib.hid (.inl ⟨by omega, rfl⟩)
    go_enter Tryd.func8, Tryd.ntmps8
    go_wp2_with fail
    go_ret
    exact ⟨⟨_, rfl, HX.out⟩, Below.refl _ _⟩
  · have t1 : decide ((n : Int) > 6) = false := decide_eq_false (by omega)
    have H6 := Lib.hid (show L.length ≤ 6 by omega)
    clear hn
    go_enter Tryd.func8, Tryd.ntmps8
    go_wp2_with fail
    go_loopw [11] (fun i wr => ∃ k : Nat, i = .int .i64 (k : Int) ∧ k ≤ n ∧ Hid (∀ j, j < k → Ty.bad L j = 0) ∧ Hid (Below w.heap.size w wr)) (fun i _ => n - (intOf i).toNat)
    case atStart => exact ⟨0, rfl, Nat.zero_le _, Lib.hid (fun j h => by omega), Lib.hid (Below.refl _ _)⟩
    case round =>
      obtain ⟨k, rfl, hk, HK, HB⟩ := hrel
      by_cases hlt : k < n
      · have hlt2 : k < L.length := by rw [HR.out.2.1]; exact hlt
        obtain ⟨b, off, rfl, c0, c1, c2⟩ := readsC_below HR.out.1 HB.out k hlt2
        have hz := HR.out.2.2.2 L[k] (List.getElem_mem hlt2)
        have hb1 : Below wr.heap.size wr (wr.alloc (.cells #[.string L[k].name, .int .i64 L[k].kind, .slice L[k].oa L[k].on L[k].oc] 49)) := (Below.refl _ _).alloc (Nat.le_refl _) _
        have hr1 : RowV (wr.alloc (.cells #[.string L[k].name, .int .i64 L[k].kind, .slice L[k].oa L[k].on L[k].oc] 49)) wr.heap.size 49 [.string L[k].name, .int .i64 L[k].kind, .slice L[k].oa L[k].on L[k].oc] := rowV_new wr _ [_, _, _]
        have cN := Name13_any L[k].name (wr.alloc (.cells #[.string L[k].name, .int .i64 L[k].kind, .slice L[k].oa L[k].on L[k].oc] 49)) hz (errR_below HR.out.2.2.1 (HB.out.trans (hb1.mono HB.out.size)))
        have h13a := Ty.bad_13a hlt2
        have h13b := Ty.bad_13b hlt2
        have h14 := Ty.bad_14 hlt2
        have hC : ∀ wx, Below wr.heap.size wr wx → RowV wx wr.heap.size 49 [.string L[k].name, .int .i64 L[k].kind, .slice L[k].oa L[k].on L[k].oc] → Calls Tryd.prog 26 #[.slice (some ⟨b, off, none⟩) k cap, .func (.func 24) #[] #[.pointer (some ⟨wr.heap.size, 0, none⟩)]] wx fun e w' => e = .returned (.bool ((L.take k).any fun c => decide (c.name = L[k].name))) ∧ Below wx.heap.size wx w' := fun wx hb hr =>
          containsC15_any L[k].name wr.heap.size (L.take k) (some ⟨b, off, none⟩) k cap (by rw [List.length_take]; omega) (by omega) wx (rowV_cell hr 0) (readsC_take (readsC_below HR.out.1 (HB.out.trans (hb.mono HB.out.size))) k)
        have q1 : ∀ W, (Instr.slice 22 (.slice (some ⟨b, off, none⟩) n cap) none (some (.int .i64 (k : Int))) none).run Tryd.prog W = .ok (.slice (some ⟨b, off, none⟩) k cap) W := fun W => slice_frontC15 _ n cap k (by omega) W
        have hkc : k ≤ cap := by omega
        have HX : ∀ r : Int, Ty.bad L k = r → r ≠ 0 → Ty.ColsR L r := fun r h0 h1 => .inr ⟨H6.out, .inl ⟨k, hlt2, HK.out, h0, h1⟩⟩
        have HN : Ty.bad L k = 0 → ∀ j, j < k + 1 → Ty.bad L j = 0 := fun h0 j hj => by
          by_cases e : j = k
          · subst e; exact h0
          · exact HK.out j (by omega)
        generalize (L.take k).any (fun c => decide (c.name = L[k].name)) = B2 at *
        generalize L[k] = y at *
        obtain ⟨y1, y2, y3, y4, y5⟩ := y
        dsimp only at c0 c1 c2 cN hC hr1 hb1 h13a h13b h14
        have HC := Lib.hid (And.intro cN (And.intro hC (And.intro hr1 (And.intro hb1 (And.intro h13a (And.intro h13b (And.intro h14 (And.intro HX HN))))))))
        clear cN hC hr1 hb1 h13a h13b h14 HX HN hz
        cases hB1 : Lx.nameB y1 with
        | false =>
          have HX2 := Lib.hid (HC.out.2.2.2.2.2.2.2.1 13 (HC.out.2.2.2.2.1 hB1) (by decide))
          rw [hB1] at HC
          clear hB1
          go_wp2_with fail
          refine HC.out.1.mono ?_
          rintro e w1 ⟨rfl, hb1⟩
          have H1 := Lib.hid (HB.out.trans ((HC.out.2.2.2.1.trans (hb1.mono HC.out.2.2.2.1.size)).mono HB.out.size))
          clear hb1
          go_wp2_with fail
          go_ret
          exact ⟨⟨_, rfl, HX2.out⟩, H1.out⟩
        | true =>
          have HB1 := Lib.hid hB1
          rw [hB1] at HC
          clear hB1
          go_wp2_with fail
          refine HC.out.1.mono ?_
          rintro e w1 ⟨rfl, hb1⟩
          have hB2 := HC.out.2.2.2.1.trans (hb1.mono HC.out.2.2.2.1.size)
          have hr2 := rowV_below HC.out.2.2.1 hb1 (rowV_lt HC.out.2.2.1)
          have hcc := HC.out.2.1 w1 hB2 hr2
          have k0 := rowV_cell hr2 0
          have k1 := rowV_cell hr2 1
          simp only [List.getElem?_cons_zero, List.getElem?_cons_succ] at k0 k1
          have H1 := Lib.hid (And.intro hcc (And.intro hB2 hr2))
          clear hb1 hcc hB2 hr2
          cases B2 with
          | true =>
            have HX2 := Lib.hid (HC.out.2.2.2.2.2.2.2.1 13 (HC.out.2.2.2.2.2.1 rfl) (by decide))
            go_wp2_with fail
            refine H1.out.1.mono ?_
            rintro e w2 ⟨rfl, hb2⟩
            have H2 := Lib.hid (HB.out.trans ((H1.out.2.1.trans (hb2.mono H1.out.2.1.size)).mono HB.out.size))
            clear hb2
            go_wp2_with fail
            go_ret
            exact ⟨⟨_, rfl, HX2.out⟩, H2.out⟩
          | false =>
            have hbk := HC.out.2.2.2.2.2.2.1 (by trivial) (by first | rfl | trivial)
            have cO := fun wx => ofColumn15_any y2 wx
            by_cases h3 : 1 ≤ y2 ∧ y2 ≤ 3
            · rw [if_pos h3] at hbk
              have HN2 := Lib.hid (HC.out.2.2.2.2.2.2.2.2 hbk)
              rw [decide_eq_true h3] at cO
              have HO := Lib.hid cO
              clear hbk cO h3
              go_wp2_with fail
              refine H1.out.1.mono ?_
              rintro e w2 ⟨rfl, hb2⟩
              have hB3 := H1.out.2.1.trans (hb2.mono H1.out.2.1.size)
              have hr3 := rowV_below H1.out.2.2 hb2 (rowV_lt H1.out.2.2)
              have m1 := rowV_cell hr3 1
              simp only [List.getElem?_cons_zero, List.getElem?_cons_succ] at m1
              have H2 := Lib.hid (HB.out.trans (hB3.mono HB.out.size))
              clear hb2 hB3 hr3
              go_wp2_with fail
              refine (HO.out _).mono ?_
              rintro e w3 ⟨rfl, rfl⟩
              go_wp2_with fail
              go_roundw
              case rel => exact ⟨k + 1, by go_num, by omega, HN2, H2⟩
              case measure => simp only [intOf]; omega
            · rw [if_neg h3] at hbk
              have HX2 := Lib.hid (HC.out.2.2.2.2.2.2.2.1 14 hbk (by decide))
              rw [decide_eq_false h3] at cO
              have HO := Lib.hid cO
              clear hbk cO h3
              go_wp2_with fail
              refine H1.out.1.mono ?_
              rintro e w2 ⟨rfl, hb2⟩
              have hB3 := H1.out.2.1.trans (hb2.mono H1.out.2.1.size)
              have hr3 := rowV_below H1.out.2.2 hb2 (rowV_lt H1.out.2.2)
              have m1 := rowV_cell hr3 1
              simp only [List.getElem?_cons_zero, List.getElem?_cons_succ] at m1
              have H2 := Lib.hid (HB.out.trans (hB3.mono HB.out.size))
              clear hb2 hB3 hr3
              go_wp2_with fail
              refine (HO.out _).mono ?_
              rintro e w3 ⟨rfl, rfl⟩
              go_wp2_with fail
              go_ret
              exact ⟨⟨_, rfl, HX2.out⟩, H2.out⟩
      · obtain rfl : k = n := by omega
        have HX : Hid (Ty.ColsR L 0) := Lib.hid (.inr ⟨H6.out, .inr ⟨fun j hj => HK.out j (by have := HR.out.2.1; omega), rfl⟩⟩)
        go_wp2_with fail
        go_ret
        exact ⟨⟨_, rfl, HX.out⟩, HB.out⟩
end Go.Proofs.YtmkckbidfpinfaaDoor
