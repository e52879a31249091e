/-
  Layer 9: the document's count of parts.
-/
import Derived.Test.YtjlglfhnnipjaaaNodFew2
namespace Go.Proofs.Ytjlglfhnnipjaaa
open Go.RowKit
theorem slice_one2 (ad : Option Addr) (n cap k : Nat) (hk : k < n) (hn : n ≤ cap) (w : World) : (Instr.slice 22 (.slice ad n cap) (some (.int .i64 (k : Int))) (some (.int .i64 ((k : Int) + 1))) none).run Try.prog w = .ok (.slice (ad.map (·.add (k * 2))) 1 (cap - k)) w := by
  obtain ⟨i0, hi0, hz⟩ := Option.map_eq_some_iff.1 pair_size
  rw [run_slice_lh (P := Try.prog) w 22 ad n cap (by rw [elem_pair]; exact Try.underlying22) .i64 .i64 k (k + 1) (by omega) (by omega) (by omega)]
  have hne : ¬ cap = k := by omega
  have h1 : ((k : Int) + 1).toNat = k + 1 := by omega
  simp [elem_pair, sizeOf, typeInfo, hi0, Result.andThen, sliced, hz, h1, hne]
theorem cell_up {w w' : World} {B b i : Nat} {v : Value} (h : Below B w w') (hb : b < B) (hc : w.cell? ⟨b, i, none⟩ = some v) : w'.cell? ⟨b, i, none⟩ = some v := (h.cell (p := ⟨b, i, none⟩) hb).trans hc
theorem readsP_one {w : World} {N : Nat} {leaf : Bool} {a : Option Addr} {n c : Nat} {ad : Option Addr} {L : List (ByteArray × ByteArray)} (hr : RowV w N 24 (nodC leaf a n c)) (h : ReadsP w ad L) (i : Nat) (v : Value) : ReadsP (w.setCell ⟨N, i, none⟩ v) ad L := by
  have ho : Only (fun k => k = N) w (w.setCell ⟨N, i, none⟩ v) := Only.setCell (F := fun k => k = N) (g := N) (i := i) (Only.refl _ w) (fun _ => rfl) v
  intro j hj
  obtain ⟨b, off, h1, h2, h3⟩ := h j hj
  have hb := nod_apart hr h2
  exact ⟨b, off, h1, (ho.cell (World.block_lt_of_cell? w _ h2) hb).trans h2, (ho.cell (World.block_lt_of_cell? w _ h3) hb).trans h3⟩
theorem run_app_of {P : Program} {o : Oper} {a : Act} {w : World} (s x : Operand) (t : TypeId) (ho : o.op = .call { callee := .builtin .append, args := #[s, x], argTypes := #[t, t] }) (v1 v2 : Value) (hs : a.eval s = v1) (hx : a.eval x = v2) (v' : Value) (w' : World)
    (hr : (Builtin.append_ #[t, t] o.type #[v1, v2]).run P w = .ok v' w') : (execOp a.eval o).run P w = .ok (.value v') w' := by
  unfold execOp
  simp only [ho, resolve, invoke, builtin, Sem.run_bind, Sem.run_pure, Result.andThen_ok, List.map_toArray, List.map_cons, List.map_nil, hs, hx, hr]
theorem run_store_of {P : Program} {o : Oper} {a : Act} {w : World} (x y : Operand) (ty : TypeId) (ho : o.op = .store ty x y) (g : Nat) (cells : Array Value) (hx : a.eval x = .pointer (some ⟨g, 0, none⟩)) (hy : a.eval y = .agg cells)
    {T : Nat} {old : List Value} (hg : RowV w g T old) (hi : (P.info? ty).map (·.size) = some old.length) (h1 : cells.all (·.oneCell') = true) (hl : old.length = cells.size := by rfl) : (execOp a.eval o).run P w = .ok .skip (w.setRow g cells) := by
  unfold execOp
  simp only [ho, hx, hy, Instr.storeAt, Instr.sureAddr, Sem.run_bind, Sem.run_pure, Result.andThen_ok, run_storeVar_row w g T ty old.toArray cells hg (by rw [hi, hl]) (by simpa using hl) h1]
section
variable {w : World}
set_option maxRecDepth 100000 in
set_option maxHeartbeats 6400000 in
theorem rfewest9_any (leaf : Bool) (a : Option Addr) (L : Nd.Prs) (c : Nat) (w : World) (hr : ReadsP w a L) (hL : L.length ≤ 900) (hc : L.length ≤ c) (hS : ∀ x ∈ L, x.1.size ≤ 1000 ∧ x.2.size ≤ 1000) :
    Calls Try.prog 43 #[nodV leaf a L.length c] w fun e w' => e = .returned (.int .i64 (Nd.few leaf L [] 0 : Int)) ∧ Below w.heap.size w w' := by
  have hb : Below w.heap.size w (w.alloc (.cells #[.bool leaf, .slice a L.length c] 24)) := (Below.refl w.heap.size w).alloc (Nat.le_refl _) _
  have hrow := rowV_new w 24 (nodC leaf a L.length c)
  obtain ⟨r0, r1, _, _⟩ := nod_cells hrow
  have hs1 : (w.alloc (.cells #[.bool leaf, .slice a L.length c] 24)).heap.size = w.heap.size + 1 := World.size_alloc _ _
  have hb2 := hb.alloc (by omega) (.cells #[.bool leaf, .slice none 0 0] 24)
  have hrow2 := rowV_alloc hrow (.cells #[.bool leaf, .slice none 0 0] 24)
  have hrowM := rowV_new (w.alloc (.cells #[.bool leaf, .slice a L.length c] 24)) 24 (nodC leaf none 0 0)
  rw [hs1] at hrowM
  have hr2 := readsP_below hr hb2
  have hfew0 : Nd.few leaf (L.drop 0) [] 0 = Nd.few leaf L [] 0 := rfl
  generalize Nd.few leaf L [] 0 = FW at *
  have H := Lib.hid (And.intro hb2 (And.intro hrow2 (And.intro hrowM (And.intro hr2 hfew0))))
  clear hb hrow hb2 hrow2 hrowM hr2 hfew0 hr hs1
  go_enter Try.func43, Try.ntmps43
  go_wp2_with fail
  generalize hN : w.heap.size = N at *
  generalize World.alloc (World.alloc w _) _ = w1 at *
  go_loopw [3, 5] (fun cv i wr => ∃ (k cnt : Nat) (now : Nd.Prs) (va : Option Addr) (vc : Nat), k ≤ L.length ∧ i = .int .i64 (k : Int) ∧ cv = .int .i64 (cnt : Int) ∧ cnt ≤ k ∧ now.length ≤ k ∧ Hid (∀ x ∈ now, x ∈ L) ∧ Hid (Nd.few leaf (L.drop k) now cnt = FW) ∧
    Hid (RowV wr N 24 (nodC leaf a L.length c) ∧ RowV wr (N + 1) 24 (nodC leaf va now.length vc) ∧ ReadsP wr va now ∧ ReadsP wr a L ∧ Below N w wr)) (fun _ i _ => L.length - (RowKit.intOf i).toNat)
  case atStart => exact ⟨0, 0, [], none, 0, Nat.zero_le _, rfl, rfl, by omega, Nat.zero_le _, Lib.hid (fun x hx => by simp at hx), Lib.hid H.out.2.2.2.2, Lib.hid ⟨H.out.2.1, H.out.2.2.1, readsP_none _ _, H.out.2.2.2.1, H.out.1⟩⟩
  case round =>
    obtain ⟨k, cnt, now, va, vc, hk, rfl, rfl, hcnt, hnk, HM, HW, HI⟩ := hrel
    obtain ⟨n0, n1, _, _⟩ := nod_cells HI.out.1
    obtain ⟨m0, m1, _, _⟩ := nod_cells HI.out.2.1
    by_cases hlt : k < L.length
    · obtain ⟨ab, off, rfl, c0, c1⟩ := HI.out.2.2.2.1 k hlt
      have hnow : now.length ≤ 1000 := by omega
      have hdrop := List.drop_eq_getElem_cons hlt
      have hmem := List.getElem_mem hlt
      generalize L[k] = x at *
      have HD := Lib.hid (And.intro hdrop hmem)
      clear hdrop hmem
      have hNB : N < wr.heap.size := rowV_lt HI.out.1
      have hMB : N + 1 < wr.heap.size := rowV_lt HI.out.2.1
      have hrnow := HI.out.2.2.1
      have HK := Lib.hid hrnow
      clear hrnow
      go_wp2_with fail
      have hrnow := HK.out
      obtain ⟨F, hF⟩ : ∃ F : Few, F = ⟨N, N + 1, wr.heap.size, leaf, ab, off, L.length, c, k, va, vc, now, x⟩ := ⟨_, rfl⟩
      refine wp_region_rely (FewG F wr) (by kernel_rfl) (by kernel_rfl) ⟨by rw [hF]; exact (Below.refl _ _).drew, fun j v h => by cases h⟩ ?hstep ?hend
      case hstep =>
        subst hF
        intro st wx i o ax ho hn haft hG hf
        have e1 : ax.tmps.getD 1 undef = .pointer (some ⟨N, 0, none⟩) := frame_stay hf (by kernel_rfl)
        have e4 : ax.tmps.getD 4 undef = .pointer (some ⟨N + 1, 0, none⟩) := frame_stay hf (by kernel_rfl)
        have e5 : ax.tmps.getD 5 undef = .int .i64 (k : Int) := frame_stay hf (by kernel_rfl)
        match i, ho, hn, haft with
        | 0, ho, hn, haft =>
          obtain rfl := Option.some.inj ho
          refine .inl ⟨.pointer (some ⟨N, 0, none⟩), wx, ?_, fewG_pure hG hn (rfl)⟩
          go_simp
        | 1, ho, hn, haft =>
          obtain rfl := Option.some.inj ho
          obtain ⟨v0, h0⟩ := Option.isSome_iff_exists.1 (haft ⟨0, .data⟩ (by simp) rfl)
          have w0 : v0 = .pointer (some ⟨N, 0, none⟩) := hG.2 0 v0 h0
          subst w0
          have e17 : ax.tmps.getD 17 undef = .pointer (some ⟨N, 0, none⟩) := hf.come 0 _ 17 _ rfl rfl h0
          have q := cell_up hG.1 hNB n0
          refine .inl ⟨.bool leaf, wx, ?_, fewG_pure hG hn (rfl)⟩
          go_simp
        | 2, ho, hn, haft =>
          obtain rfl := Option.some.inj ho
          refine .inl ⟨.slice (some ⟨wx.heap.size, 0, none⟩) 0 0, wx.alloc (.cells #[] 33), ?_, fewG_alloc hG (Nat.le_refl _) hn (fun _ => ⟨wx.heap.size, rfl, rowV_new wx 33 [], hG.1.size⟩)⟩
          go_simp
        | 3, ho, hn, haft =>
          obtain rfl := Option.some.inj ho
          refine .inl ⟨.pointer (some ⟨N + 1, 1, none⟩), wx, ?_, fewG_pure hG hn (rfl)⟩
          go_simp
        | 4, ho, hn, haft =>
          obtain rfl := Option.some.inj ho
          obtain ⟨v3, h3⟩ := Option.isSome_iff_exists.1 (haft ⟨3, .data⟩ (by simp) rfl)
          have w3 : v3 = .pointer (some ⟨N + 1, 1, none⟩) := hG.2 3 v3 h3
          subst w3
          have e20 : ax.tmps.getD 20 undef = .pointer (some ⟨N + 1, 1, none⟩) := hf.come 3 _ 20 _ rfl rfl h3
          have q := cell_up hG.1 hMB m1
          refine .inl ⟨.slice va now.length vc, wx, ?_, fewG_pure hG hn (rfl)⟩
          go_simp
        | 5, ho, hn, haft =>
          obtain rfl := Option.some.inj ho
          obtain ⟨v2, h2⟩ := Option.isSome_iff_exists.1 (haft ⟨2, .data⟩ (by simp) rfl)
          have e19 : ax.tmps.getD 19 undef = v2 := hf.come 2 _ 19 _ rfl rfl h2
          obtain ⟨v4, h4⟩ := Option.isSome_iff_exists.1 (haft ⟨4, .data⟩ (by simp) rfl)
          have e21 : ax.tmps.getD 21 undef = v4 := hf.come 4 _ 21 _ rfl rfl h4
          obtain ⟨v, w', hrun, hG'⟩ := few_5 hG rfl hrnow hnow hn h2 h4 22
          refine .inl ⟨v, w', ?_, hG'⟩
          exact run_app_of (.tmp 19) (.tmp 21) 22 rfl _ _ e19 e21 _ _ hrun
        | 6, ho, hn, haft =>
          obtain rfl := Option.some.inj ho
          refine .inl ⟨.pointer (some ⟨N, 1, none⟩), wx, ?_, fewG_pure hG hn (rfl)⟩
          go_simp
        | 7, ho, hn, haft =>
          obtain rfl := Option.some.inj ho
          obtain ⟨v6, h6⟩ := Option.isSome_iff_exists.1 (haft ⟨6, .data⟩ (by simp) rfl)
          have w6 : v6 = .pointer (some ⟨N, 1, none⟩) := hG.2 6 v6 h6
          subst w6
          have e23 : ax.tmps.getD 23 undef = .pointer (some ⟨N, 1, none⟩) := hf.come 6 _ 23 _ rfl rfl h6
          have q := cell_up hG.1 hNB n1
          refine .inl ⟨.slice (some ⟨ab, off, none⟩) L.length c, wx, ?_, fewG_pure hG hn (rfl)⟩
          go_simp
        | 8, ho, hn, haft =>
          obtain rfl := Option.some.inj ho
          refine .inl ⟨.int .i64 (k : Int), wx, ?_, fewG_pure hG hn (rfl)⟩
          go_simp
        | 9, ho, hn, haft =>
          obtain rfl := Option.some.inj ho
          obtain ⟨v7, h7⟩ := Option.isSome_iff_exists.1 (haft ⟨7, .data⟩ (by simp) rfl)
          have w7 : v7 = .slice (some ⟨ab, off, none⟩) L.length c := hG.2 7 v7 h7
          subst w7
          have e24 : ax.tmps.getD 24 undef = .slice (some ⟨ab, off, none⟩) L.length c := hf.come 7 _ 24 _ rfl rfl h7
          obtain ⟨v8, h8⟩ := Option.isSome_iff_exists.1 (haft ⟨8, .data⟩ (by simp) rfl)
          have w8 : v8 = .int .i64 (k : Int) := hG.2 8 v8 h8
          subst w8
          have e25 : ax.tmps.getD 25 undef = .int .i64 (k : Int) := hf.come 8 _ 25 _ rfl rfl h8
          refine .inl ⟨.pointer (some ⟨ab, off + k * 2, none⟩), wx, ?_, fewG_pure hG hn (rfl)⟩
          go_simp
        | 10, ho, hn, haft =>
          obtain rfl := Option.some.inj ho
          obtain ⟨v9, h9⟩ := Option.isSome_iff_exists.1 (haft ⟨9, .data⟩ (by simp) rfl)
          have w9 : v9 = .pointer (some ⟨ab, off + k * 2, none⟩) := hG.2 9 v9 h9
          subst w9
          have e26 : ax.tmps.getD 26 undef = .pointer (some ⟨ab, off + k * 2, none⟩) := hf.come 9 _ 26 _ rfl rfl h9
          have q := cell_up hG.1 (World.block_lt_of_cell? _ _ c0) c0
          have q2 := cell_up hG.1 (World.block_lt_of_cell? _ _ c1) c1
          refine .inl ⟨.agg #[.string x.1, .string x.2], wx, ?_, fewG_pure hG hn (rfl)⟩
          go_simp
        | 11, ho, hn, haft =>
          obtain rfl := Option.some.inj ho
          obtain ⟨v10, h10⟩ := Option.isSome_iff_exists.1 (haft ⟨10, .data⟩ (by simp) rfl)
          have w10 : v10 = .agg #[.string x.1, .string x.2] := hG.2 10 v10 h10
          subst w10
          have e27 : ax.tmps.getD 27 undef = .agg #[.string x.1, .string x.2] := hf.come 10 _ 27 _ rfl rfl h10
          have e27b := e27
          rw [Array.getD_eq_getD_getElem?] at e27b
          refine .inl ⟨.slice (some ⟨wx.heap.size, 0, none⟩) 1 1, wx.alloc (.cells #[.string x.1, .string x.2] 33), ?_, fewG_alloc hG (Nat.le_refl _) hn (fun _ => ⟨wx.heap.size, rfl, rowV_new wx 33 [.string x.1, .string x.2], hG.1.size⟩)⟩
          go_simp
        | 12, ho, hn, haft =>
          obtain rfl := Option.some.inj ho
          obtain ⟨v5, h5⟩ := Option.isSome_iff_exists.1 (haft ⟨5, .data⟩ (by simp) rfl)
          have e22 : ax.tmps.getD 22 undef = v5 := hf.come 5 _ 22 _ rfl rfl h5
          obtain ⟨v11, h11⟩ := Option.isSome_iff_exists.1 (haft ⟨11, .data⟩ (by simp) rfl)
          have e28 : ax.tmps.getD 28 undef = v11 := hf.come 11 _ 28 _ rfl rfl h11
          obtain ⟨v, w', hrun, hG'⟩ := few_12 hG rfl hnow hn h5 h11 22
          refine .inl ⟨v, w', ?_, hG'⟩
          exact run_app_of (.tmp 22) (.tmp 28) 22 rfl _ _ e22 e28 _ _ hrun
        | 13, ho, hn, haft =>
          obtain rfl := Option.some.inj ho
          obtain ⟨v1, h1⟩ := Option.isSome_iff_exists.1 (haft ⟨1, .data⟩ (by simp) rfl)
          have w1 : v1 = .bool leaf := hG.2 1 v1 h1
          subst w1
          have e18 : ax.tmps.getD 18 undef = .bool leaf := hf.come 1 _ 18 _ rfl rfl h1
          obtain ⟨v12, h12⟩ := Option.isSome_iff_exists.1 (haft ⟨12, .data⟩ (by simp) rfl)
          have e29 : ax.tmps.getD 29 undef = v12 := hf.come 12 _ 29 _ rfl rfl h12
          have e18b := e18
          rw [Array.getD_eq_getD_getElem?] at e18b
          obtain ⟨_, hown⟩ := hG.2 12 v12 h12
          obtain ⟨g', cap', rfl, _⟩ := World.ownsRow.form hown (by omega)
          refine .inl ⟨.agg #[.bool leaf, .slice (some ⟨g', 0, none⟩) (now.length + 1) cap'], wx, ?_, fewG_pure hG hn ⟨_, came_some hn h12, rfl⟩⟩
          clear hown
          have e29b := e29
          rw [Array.getD_eq_getD_getElem?] at e29b
          go_simp
        | 14, ho, hn, haft =>
          obtain rfl := Option.some.inj ho
          refine .inl ⟨.pointer (some ⟨wx.heap.size, 0, none⟩), wx.alloc (.cells #[.bool false, .slice none 0 0] 24), ?_, fewG_alloc hG (Nat.le_refl _) hn ⟨wx.heap.size, rfl, hG.1.size, fun _ => rowV_new wx 24 [.bool false, .slice none 0 0]⟩⟩
          go_simp
        | 15, ho, hn, haft =>
          obtain rfl := Option.some.inj ho
          obtain ⟨v13, h13⟩ := Option.isSome_iff_exists.1 (haft ⟨13, .data⟩ (by simp) rfl)
          have e30 : ax.tmps.getD 30 undef = v13 := hf.come 13 _ 30 _ rfl rfl h13
          obtain ⟨v14, h14⟩ := Option.isSome_iff_exists.1 (haft ⟨14, .data⟩ (by simp) rfl)
          have e6 : ax.tmps.getD 6 undef = v14 := hf.come 14 _ 6 _ rfl rfl h14
          obtain ⟨g, u, rfl, rfl, hg, h1c, hG'⟩ := few_15 hG rfl hn h13 h14
          refine .inr ⟨_, ?_, hG'⟩
          exact run_store_of (.tmp 6) (.tmp 30) 24 rfl g #[.bool leaf, u] e6 e30 hg info_nod h1c
        | n + 16, ho, hn, haft => cases ho
      case hend =>
        intro st wx ax hall hG hf
        subst hF
        obtain ⟨u, h12⟩ := Option.isSome_iff_exists.1 (hall 12 (by decide))
        obtain ⟨y15, h15⟩ := Option.isSome_iff_exists.1 (hall 15 (by decide))
        obtain ⟨u', g, h12', h14, hrg⟩ := hG.2 15 y15 h15
        rw [h12] at h12'
        obtain rfl := Option.some.inj h12'
        obtain ⟨v14, h14b, hgB⟩ : ∃ v, st 14 = some v ∧ wr.heap.size ≤ g := by
          obtain ⟨g2, e, hb, _⟩ := hG.2 14 _ h14
          cases e
          exact ⟨_, h14, hb⟩
        have hown : wx.ownsRow wr.heap.size 33 2 u (now.length + 1) (pairsC (now ++ [x])) := (hG.2 12 u h12).2
        obtain ⟨va2, vc2, rfl, hrd2, _⟩ := owns_readsP hown (by rw [List.length_append]; rfl)
        have hl1 : (now ++ [x]).length = now.length + 1 := by rw [List.length_append]; rfl
        have hrg2 : RowV wx g 24 (nodC leaf va2 (now ++ [x]).length vc2) := hrg
        have hbx : Below wr.heap.size wr wx := hG.1
        obtain ⟨z, hz⟩ : ∃ z : Nat → Value, z = fun i => ax.tmps.getD i undef := ⟨_, rfl⟩
        have hax : ax = ⟨((List.range 46).map z).toArray, ax.defers⟩ := by rw [hz]; exact frame_list (hf.size.trans (by rfl))
        have hde : ax.defers = [] := hf.defers
        rw [hde] at hax
        have hax2 : ax = ⟨#[z 0, z 1, z 2, z 3, z 4, z 5, z 6, z 7, z 8, z 9, z 10, z 11, z 12, z 13, z 14, z 15, z 16, z 17, z 18, z 19, z 20, z 21, z 22, z 23, z 24, z 25, z 26, z 27, z 28, z 29, z 30, z 31, z 32, z 33, z 34, z 35, z 36, z 37, z 38, z 39, z 40, z 41, z 42, z 43, z 44, z 45], []⟩ := hax
        have z1 : z 1 = .pointer (some ⟨N, 0, none⟩) := by rw [hz]; exact frame_stay hf (by kernel_rfl)
        have z3 : z 3 = .int .i64 (cnt : Int) := by rw [hz]; exact frame_stay hf (by kernel_rfl)
        have z4 : z 4 = .pointer (some ⟨N + 1, 0, none⟩) := by rw [hz]; exact frame_stay hf (by kernel_rfl)
        have z5 : z 5 = .int .i64 (k : Int) := by rw [hz]; exact frame_stay hf (by kernel_rfl)
        have z0 : z 0 = nodV leaf (some ⟨ab, off, none⟩) L.length c := by rw [hz]; exact frame_stay hf (by kernel_rfl)
        have z6 : z 6 = .pointer (some ⟨g, 0, none⟩) := by rw [hz]; exact hf.come 14 _ 6 _ rfl rfl h14
        have z2 : z 2 = .int .i64 0 := by rw [hz]; exact frame_stay hf (by kernel_rfl)
        have z7 : z 7 = .pointer (some ⟨N, 0, none⟩) := by rw [hz]; exact frame_stay hf (by kernel_rfl)
        have z8 : z 8 = .bool leaf := by rw [hz]; exact frame_stay hf (by kernel_rfl)
        have z9 : z 9 = .agg #[.bool leaf, .slice none 0 0] := by rw [hz]; exact frame_stay hf (by kernel_rfl)
        have z44 : z 44 = undef := by rw [hz]; exact frame_stay hf (by kernel_rfl)
        have z45 : z 45 = undef := by rw [hz]; exact frame_stay hf (by kernel_rfl)
        clear hz hax hde
        subst hax2
        rw [z0, z1, z2, z3, z4, z5, z6, z7, z8, z9, z44, z45]
        clear hf hG hall z0 z1 z2 z3 z4 z5 z6 z7 z8 z9 z44 z45
        dsimp only
        generalize hnow2 : now ++ [x] = now2 at *
        have HN2 := Lib.hid hnow2
        have hnl : now2.length ≤ k + 1 := by omega
        clear hnow2 hown hl1
        have hrN := rowV_below HI.out.1 hbx hNB
        have hrM := rowV_below HI.out.2.1 hbx hMB
        have hrL := readsP_below HI.out.2.2.2.1 hbx
        have hbN : Below N w wx := HI.out.2.2.2.2.trans (hbx.mono (by omega))
        have hmem2 : ∀ y ∈ now2, y ∈ L := fun y hy => by
          rw [← HN2.out] at hy
          rcases List.mem_append.1 hy with h | h
          · exact HM.out y h
          · simp at h; subst h; exact HD.out.2
        have cZ := rsize9_any leaf va2 now2 vc2 wx hrd2 (by omega) (fun y hy => hS y (hmem2 y hy))
        obtain ⟨g0, g1, g2, g3⟩ := nod_cells hrg2
        have hsz : (Nd.text ⟨leaf, now2⟩).size = Nd.sz leaf now2 := rfl
        rw [hsz] at cZ
        have hstep1 : 480 < Nd.sz leaf now2 → Nd.few leaf (L.drop (k + 1)) [x] (cnt + 1) = FW := fun h => by
          rw [← HW.out, HD.out.1]
          show _ = (if _ then _ else _)
          rw [HN2.out, if_pos h]
        have hstep2 : ¬ 480 < Nd.sz leaf now2 → Nd.few leaf (L.drop (k + 1)) now2 cnt = FW := fun h => by
          rw [← HW.out, HD.out.1]
          show _ = (if _ then _ else _)
          rw [HN2.out, if_neg h]
        generalize Nd.sz leaf now2 = SZ at *
        have K := Lib.hid (And.intro hrg2 (And.intro hrN (And.intro hrM (And.intro hrL (And.intro hrd2 (And.intro hbN cZ))))))
        have KS := Lib.hid (And.intro hstep1 (And.intro hstep2 hmem2))
        have hMg : N + 1 < g := by omega
        clear hrg2 hrN hrM hrL hrd2 hbN cZ hbx n0 n1 m0 m1 c0 c1 hrnow hstep1 hstep2 hmem2 h12 h15 h14 h14b hrg hsz
        by_cases hq : 480 < SZ
        · have d1 : decide (480 < (SZ : Int)) = true := decide_eq_true (by omega)
          go_wp2_with fail
          refine K.out.2.2.2.2.2.2.mono ?_
          rintro e w2 ⟨rfl, hb2⟩
          have hg2 := rowV_below K.out.1 hb2 (rowV_lt K.out.1)
          have hN2 := rowV_below K.out.2.1 hb2 (rowV_lt K.out.2.1)
          have hM2 := rowV_below K.out.2.2.1 hb2 (rowV_lt K.out.2.2.1)
          have hL2 := readsP_below K.out.2.2.2.1 hb2
          have hbw2 : Below N w w2 := K.out.2.2.2.2.2.1.trans (hb2.mono (by have := K.out.2.2.2.2.2.1.size; omega))
          obtain ⟨a0, a1, a2, a3⟩ := nod_cells hg2
          obtain ⟨b0, b1, _, _⟩ := nod_cells hN2
          obtain ⟨p0, p1, p2, p3⟩ := nod_cells hM2
          have q1 := fun W => slice_one2 (some ⟨ab, off, none⟩) L.length c k hlt hc W
          rw [Option.map_some, add_mid2] at q1
          have K2 := Lib.hid (And.intro hg2 (And.intro hN2 (And.intro hM2 (And.intro hL2 hbw2))))
          clear hb2 hg2 hN2 hM2 hL2 hbw2 g0 g1 g2 g3
          go_wp2_with fail
          have hcell : ∀ v, RowV (w2.setCell ⟨g, 1, none⟩ v) (N + 1) 24 (nodC leaf va now.length vc) := fun v => rowV_far K2.out.2.2.1 (by omega) v
          have hfin := nod_put (hcell (.slice (some ⟨ab, off + k * 2, none⟩) 1 (c - k))) leaf (some ⟨ab, off + k * 2, none⟩) 1 (c - k)
          have hN4 := rowV_far (rowV_far (rowV_far K2.out.2.1 (show N ≠ g by omega) (i := 1) (.slice (some ⟨ab, off + k * 2, none⟩) 1 (c - k))) (show N ≠ N + 1 by omega) (i := 0) (.bool leaf)) (show N ≠ N + 1 by omega) (i := 1) (.slice (some ⟨ab, off + k * 2, none⟩) 1 (c - k))
          have hL4 := readsP_put (hcell (.slice (some ⟨ab, off + k * 2, none⟩) 1 (c - k))) (readsP_one K2.out.1 K2.out.2.2.2.1 1 (.slice (some ⟨ab, off + k * 2, none⟩) 1 (c - k))) (.bool leaf) (.slice (some ⟨ab, off + k * 2, none⟩) 1 (c - k))
          have hx4 : ReadsP (((w2.setCell ⟨g, 1, none⟩ (.slice (some ⟨ab, off + k * 2, none⟩) 1 (c - k))).setCell ⟨N + 1, 0, none⟩ (.bool leaf)).setCell ⟨N + 1, 1, none⟩ (.slice (some ⟨ab, off + k * 2, none⟩) 1 (c - k))) (some ⟨ab, off + k * 2, none⟩) [x] := by
            have h1 := readsP_take (readsP_from hL4 (k := k) (by omega) hc) 1
            rw [if_neg (by omega), Option.map_some, add_mid2, HD.out.1] at h1
            exact h1
          have hb4 : Below N w (((w2.setCell ⟨g, 1, none⟩ (.slice (some ⟨ab, off + k * 2, none⟩) 1 (c - k))).setCell ⟨N + 1, 0, none⟩ (.bool leaf)).setCell ⟨N + 1, 1, none⟩ (.slice (some ⟨ab, off + k * 2, none⟩) 1 (c - k))) :=
            ((K2.out.2.2.2.2.setCell (p := ⟨g, 1, none⟩) (by show N ≤ g; omega) _).setCell (p := ⟨N + 1, 0, none⟩) (by show N ≤ N + 1; omega) _).setCell (p := ⟨N + 1, 1, none⟩) (by show N ≤ N + 1; omega) _
          have K4 := Lib.hid (And.intro hN4 (And.intro hfin.1 (And.intro hx4 (And.intro hL4 hb4))))
          clear hcell hfin hN4 hL4 hx4 hb4
          go_roundw
          case rel => exact ⟨k + 1, cnt + 1, [x], some ⟨ab, off + k * 2, none⟩, c - k, by omega, by go_num, by go_num, by omega, by simp, Lib.hid (fun y hy => by simp at hy; subst hy; exact HD.out.2), Lib.hid (KS.out.1 hq), K4⟩
          case measure => simp [RowKit.intOf]; omega
        · have d1 : decide (480 < (SZ : Int)) = false := decide_eq_false (by omega)
          go_wp2_with fail
          refine K.out.2.2.2.2.2.2.mono ?_
          rintro e w2 ⟨rfl, hb2⟩
          have hg2 := rowV_below K.out.1 hb2 (rowV_lt K.out.1)
          have hN2 := rowV_below K.out.2.1 hb2 (rowV_lt K.out.2.1)
          have hM2 := rowV_below K.out.2.2.1 hb2 (rowV_lt K.out.2.2.1)
          have hL2 := readsP_below K.out.2.2.2.1 hb2
          have hrd := readsP_below K.out.2.2.2.2.1 hb2
          have hbw2 : Below N w w2 := K.out.2.2.2.2.2.1.trans (hb2.mono (by have := K.out.2.2.2.2.2.1.size; omega))
          obtain ⟨a0, a1, a2, a3⟩ := nod_cells hg2
          obtain ⟨p0, p1, p2, p3⟩ := nod_cells hM2
          have K2 := Lib.hid (And.intro hg2 (And.intro hN2 (And.intro hM2 (And.intro hL2 (And.intro hrd hbw2)))))
          clear hb2 hg2 hN2 hM2 hL2 hrd hbw2 g0 g1 g2 g3
          go_wp2_with fail
          have hfin := nod_put K2.out.2.2.1 leaf va2 now2.length vc2
          have hN4 := rowV_far (rowV_far K2.out.2.1 (show N ≠ N + 1 by omega) (i := 0) (.bool leaf)) (show N ≠ N + 1 by omega) (i := 1) (.slice va2 now2.length vc2)
          have hL4 := readsP_put K2.out.2.2.1 K2.out.2.2.2.1 (.bool leaf) (.slice va2 now2.length vc2)
          have hx4 := readsP_put K2.out.2.2.1 K2.out.2.2.2.2.1 (.bool leaf) (.slice va2 now2.length vc2)
          have hb4 : Below N w ((w2.setCell ⟨N + 1, 0, none⟩ (.bool leaf)).setCell ⟨N + 1, 1, none⟩ (.slice va2 now2.length vc2)) :=
            (K2.out.2.2.2.2.2.setCell (p := ⟨N + 1, 0, none⟩) (by show N ≤ N + 1; omega) _).setCell (p := ⟨N + 1, 1, none⟩) (by show N ≤ N + 1; omega) _
          have K4 := Lib.hid (And.intro hN4 (And.intro hfin.1 (And.intro hx4 (And.intro hL4 hb4))))
          clear hfin hN4 hL4 hx4 hb4
          go_roundw
          case rel => exact ⟨k + 1, cnt, now2, va2, vc2, by omega, by go_num, rfl, by omega, hnl, Lib.hid KS.out.2.2, Lib.hid (KS.out.2.1 hq), K4⟩
          case measure => simp [RowKit.intOf]; omega
    · obtain rfl : k = L.length := by omega
      have hfin : FW = cnt + 1 := by
        rw [← HW.out, List.drop_length]; rfl
      have hfin2 : (cnt : Int) + 1 = (FW : Int) := by omega
      have HF := Lib.hid hfin2
      clear hfin hfin2
      go_wp2_with fail
      go_ret
      exact ⟨ret_int HF.out, by first | exact HI.out.2.2.2.2 | (rw [hN]; exact HI.out.2.2.2.2)⟩
end
end Go.Proofs.Ytjlglfhnnipjaaa
