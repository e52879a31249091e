/-
  Layer 15, the program's: what an op makes of its parts' kinds.
-/
import Derived.Test.YtmkckbidfpinfaaDoorZTypRes
import Derived.Test.YtmkckbidfpinfaaDoorPk1
import Derived.Test.YtmkckbidfpinfaaDoorPk4
namespace Go.Proofs.YtmkckbidfpinfaaDoor
open Go.RowKit
namespace Ty
theorem res_add {ks : List Int} : result 4 ks = if all 1 ks then (1, true) else (2, all 2 ks) := rfl
theorem res_eq {op : Int} {ks : List Int} (h : op = 8 ∨ op = 9) : result op ks = (3, fits (ks.getD 0 0) (ks.getD 1 0)) := by unfold result; rw [if_neg (by omega), if_pos h]
theorem res_lt {op : Int} {ks : List Int} (h : op = 10 ∨ op = 11 ∨ op = 12 ∨ op = 13) : result op ks = (3, fits (ks.getD 0 0) (ks.getD 1 0) && !decide (some2 (ks.getD 0 0) (ks.getD 1 0) = 3)) := by unfold result; rw [if_neg (by omega), if_neg (by omega), if_pos h]
theorem res_and {op : Int} {ks : List Int} (h : op = 14 ∨ op = 15) : result op ks = (3, all 3 ks) := by unfold result; rw [if_neg (by omega), if_neg (by omega), if_neg (by omega), if_pos h]
theorem res_if {ks : List Int} : result 16 ks = (some2 (ks.getD 1 0) (ks.getD 2 0), all 3 [ks.getD 0 0] && fits (ks.getD 1 0) (ks.getD 2 0)) := rfl
theorem res_num {op : Int} {ks : List Int} (h : op < 4 ∨ (5 ≤ op ∧ op ≤ 7) ∨ 17 ≤ op) : result op ks = (1, all 1 ks) := by unfold result; rw [if_neg (by omega), if_neg (by omega), if_neg (by omega), if_neg (by omega), if_neg (by omega)]
/-- how many parts an op wants at least -/
def need (op : Int) : Nat := if 8 ≤ op ∧ op ≤ 13 then 2 else if op = 16 then 3 else 0
end Ty
/-- what result tells -/
def ResP (op : Int) (ks : List Int) (w : World) (e : Ending) (w' : World) : Prop := e = .returned (.tuple #[.int .i64 (Ty.result op ks).1, .bool (Ty.result op ks).2]) ∧ Below w.heap.size w w'
theorem readsK_at {w : World} {a : Option Addr} {ks : List Int} (h : ReadsK w a ks) {k : Nat} (hk : k < ks.length) {b off : Nat} (ha : a = some ⟨b, off, none⟩) : w.cell? ⟨b, off + k, none⟩ = some (.int .i64 (ks.getD k 0)) := by
  obtain ⟨b', off', e, hc⟩ := h k hk
  rw [ha] at e
  cases e
  rw [hc, List.getD_eq_getElem?_getD, List.getElem?_eq_getElem hk]; rfl
theorem wanted_of {ops : Array Oper} {o : Oper} {tmps : Array Value} {j d : Nat} {bb want : Bool} (hg : o.guard = some (j, want)) (hd : (ops[j]?).bind (·.dst) = some d) (ht : tmps.getD d undef = .bool bb) : Region.wanted o (yielded ops tmps) = (bb == want) := by
  have h1 : tmps[d]? = some (.bool bb) := by
    rw [Array.getD_eq_getD_getElem?] at ht
    cases h : tmps[d]? with
    | none => rw [h] at ht; cases ht
    | some v => rw [h] at ht; exact congrArg some ht
  unfold Region.wanted yielded
  rw [hg]
  simp [hd, h1]
def ifFtrue (b off n c : Nat) (k0 k1 k2 SM : Int) (B : Bool) : Nat → Value → World → Prop
  | 0, v, _ => v = (.slice (some ⟨b, off, none⟩) n c)
  | 1, v, _ => v = (.pointer (some ⟨b, off + 1, none⟩))
  | 2, v, _ => v = (.int .i64 k1)
  | 3, v, _ => v = (.slice (some ⟨b, off, none⟩) n c)
  | 4, v, _ => v = (.pointer (some ⟨b, off + 2, none⟩))
  | 5, v, _ => v = (.int .i64 k2)
  | 6, v, _ => v = (.int .i64 SM)
  | 7, v, _ => v = (.slice (some ⟨b, off, none⟩) n c)
  | 8, v, _ => v = (.pointer (some ⟨b, off, none⟩))
  | 9, v, _ => v = (.int .i64 k0)
  | 10, v, w => ∃ g, v = .slice (some ⟨g, 0, none⟩) 1 1 ∧ w.cell? ⟨g, 0, none⟩ = some (.int .i64 k0)
  | 11, v, _ => v = (.bool true)
  | 12, v, _ => v = (.bool true)
  | 13, v, _ => v = (.slice (some ⟨b, off, none⟩) n c)
  | 14, v, _ => v = (.pointer (some ⟨b, off + 1, none⟩))
  | 15, v, _ => v = (.int .i64 k1)
  | 16, v, _ => v = (.slice (some ⟨b, off, none⟩) n c)
  | 17, v, _ => v = (.pointer (some ⟨b, off + 2, none⟩))
  | 18, v, _ => v = (.int .i64 k2)
  | 19, v, _ => v = (.bool B)
  | 20, v, _ => v = (.bool B)
  | 21, v, _ => v = (.int .i64 SM)
  | 22, v, _ => v = (.bool B)
  | _, _, _ => True
theorem ifFtrue_up (b off n c : Nat) (k0 k1 k2 SM : Int) (B : Bool) : ∀ j u (wx wy : World), Below wx.heap.size wx wy → ifFtrue b off n c k0 k1 k2 SM B j u wx → ifFtrue b off n c k0 k1 k2 SM B j u wy := by
  intro j u wx wy hb h
  match j, h with
  | 10, ⟨g, e, hc⟩ => exact ⟨g, e, (hb.cell (World.block_lt_of_cell? _ _ hc)).trans hc⟩
  | 0, h => exact h
  | 1, h => exact h
  | 2, h => exact h
  | 3, h => exact h
  | 4, h => exact h
  | 5, h => exact h
  | 6, h => exact h
  | 7, h => exact h
  | 8, h => exact h
  | 9, h => exact h
  | 11, h => exact h
  | 12, h => exact h
  | 13, h => exact h
  | 14, h => exact h
  | 15, h => exact h
  | 16, h => exact h
  | 17, h => exact h
  | 18, h => exact h
  | 19, h => exact h
  | 20, h => exact h
  | 21, h => exact h
  | 22, h => exact h
  | _ + 23, _ => trivial
def ifFfalse (b off n c : Nat) (k0 k1 k2 SM : Int) (_B : Bool) : Nat → Value → World → Prop
  | 0, v, _ => v = (.slice (some ⟨b, off, none⟩) n c)
  | 1, v, _ => v = (.pointer (some ⟨b, off + 1, none⟩))
  | 2, v, _ => v = (.int .i64 k1)
  | 3, v, _ => v = (.slice (some ⟨b, off, none⟩) n c)
  | 4, v, _ => v = (.pointer (some ⟨b, off + 2, none⟩))
  | 5, v, _ => v = (.int .i64 k2)
  | 6, v, _ => v = (.int .i64 SM)
  | 7, v, _ => v = (.slice (some ⟨b, off, none⟩) n c)
  | 8, v, _ => v = (.pointer (some ⟨b, off, none⟩))
  | 9, v, _ => v = (.int .i64 k0)
  | 10, v, w => ∃ g, v = .slice (some ⟨g, 0, none⟩) 1 1 ∧ w.cell? ⟨g, 0, none⟩ = some (.int .i64 k0)
  | 11, v, _ => v = (.bool false)
  | 12, v, _ => v = (.bool false)
  | 20, v, _ => v = (.bool false)
  | 21, v, _ => v = (.int .i64 SM)
  | 22, v, _ => v = (.bool false)
  | _, _, _ => True
theorem ifFfalse_up (b off n c : Nat) (k0 k1 k2 SM : Int) (B : Bool) : ∀ j u (wx wy : World), Below wx.heap.size wx wy → ifFfalse b off n c k0 k1 k2 SM B j u wx → ifFfalse b off n c k0 k1 k2 SM B j u wy := by
  intro j u wx wy hb h
  match j, h with
  | 10, ⟨g, e, hc⟩ => exact ⟨g, e, (hb.cell (World.block_lt_of_cell? _ _ hc)).trans hc⟩
  | 0, h => exact h
  | 1, h => exact h
  | 2, h => exact h
  | 3, h => exact h
  | 4, h => exact h
  | 5, h => exact h
  | 6, h => exact h
  | 7, h => exact h
  | 8, h => exact h
  | 9, h => exact h
  | 11, h => exact h
  | 12, h => exact h
  | 13, h => exact h
  | 14, h => exact h
  | 15, h => exact h
  | 16, h => exact h
  | 17, h => exact h
  | 18, h => exact h
  | 19, h => exact h
  | 20, h => exact h
  | 21, h => exact h
  | 22, h => exact h
  | _ + 23, _ => trivial
set_option maxRecDepth 100000 in
set_option maxHeartbeats 12800000 in
theorem resIf15_case (k0 k1 k2 : Int) (b off n c : Nat) (hd3 : 3 ≤ n) (w : World) (c0 : w.cell? ⟨b, off, none⟩ = some (.int .i64 k0)) (c1 : w.cell? ⟨b, off + 1, none⟩ = some (.int .i64 k1)) (c2 : w.cell? ⟨b, off + 2, none⟩ = some (.int .i64 k2)) :
    Calls Tryd.prog 51 #[.int .i64 16, .slice (some ⟨b, off, none⟩) n c] w fun e w' => e = .returned (.tuple #[.int .i64 (Ty.some2 k1 k2), .bool (Ty.all 3 [k0] && Ty.fits k1 k2)]) ∧ Below w.heap.size w w' := by
  have HF := Lib.hid fun wx => fits15_any k1 k2 wx
  have HSm := Lib.hid fun wx => some15_any k1 k2 wx
  have HAl := Lib.hid fun (g : Nat) (wx : World) (hc : wx.cell? ⟨g, 0, none⟩ = some (.int .i64 k0)) => all15_any 3 [k0] (some ⟨g, 0, none⟩) 1 1 rfl (by omega) wx (fun i hi => by
    have hi1 : i < 1 := hi
    obtain rfl : i = 0 := by omega
    exact ⟨g, 0, rfl, hc⟩)
  generalize Ty.some2 k1 k2 = SM at *
  generalize Ty.fits k1 k2 = B at *
  generalize Ty.all 3 [k0] = B3 at *
  have hbl := World.block_lt_of_cell? _ _ c0
  dsimp only at hbl
  cases B3
  · go_enter Tryd.func51, Tryd.ntmps51
    go_wp2_with fail
    refine wp_region_relyG (Gr w (ifFfalse b off n c k0 k1 k2 SM B)) (by kernel_rfl) (by kernel_rfl) ⟨(Below.refl _ _).drew, fun j v h => by cases h⟩ ?hstep ?hend
    case hstep =>
      intro st wx i o ax ho hn haft hG hf
      have f1 : ax.tmps.getD 1 undef = (.slice (some ⟨b, off, none⟩) n c) := frame_stay hf (by kernel_rfl)
      match i, ho, hn, haft with
      | 0, ho, hn, haft =>
        obtain rfl := Option.some.inj ho
        rw [if_pos (by rfl)]
        refine .inl ⟨(.slice (some ⟨b, off, none⟩) n c), wx, ?_, gr_pure hG rfl⟩
        go_simp
      | 1, ho, hn, haft =>
        obtain rfl := Option.some.inj ho
        obtain ⟨v0, h0⟩ := Option.isSome_iff_exists.1 (haft ⟨0, .data⟩ (by simp) rfl)
        obtain rfl : v0 = (.slice (some ⟨b, off, none⟩) n c) := hG.2 0 v0 h0
        have e52 : ax.tmps.getD 52 undef = (.slice (some ⟨b, off, none⟩) n c) := hf.come 0 _ 52 _ rfl rfl h0
        rw [if_pos (by rfl)]
        refine .inl ⟨(.pointer (some ⟨b, off + 1, none⟩)), wx, ?_, gr_pure hG rfl⟩
        have hn1 : ((1 : Int)) < (n : Int) := by omega
        have hn2 : ((2 : Int)) < (n : Int) := by omega
        have hn0 : ((0 : Int)) < (n : Int) := by omega
        go_simp
        try omega
      | 2, ho, hn, haft =>
        obtain rfl := Option.some.inj ho
        obtain ⟨v1, h1⟩ := Option.isSome_iff_exists.1 (haft ⟨1, .data⟩ (by simp) rfl)
        obtain rfl : v1 = (.pointer (some ⟨b, off + 1, none⟩)) := hG.2 1 v1 h1
        have e53 : ax.tmps.getD 53 undef = (.pointer (some ⟨b, off + 1, none⟩)) := hf.come 1 _ 53 _ rfl rfl h1
        rw [if_pos (by rfl)]
        refine .inl ⟨(.int .i64 k1), wx, ?_, gr_pure hG rfl⟩
        have d0 := (hG.1.cell (p := ⟨b, off, none⟩) hbl).trans c0
        have d1 := (hG.1.cell (p := ⟨b, off + 1, none⟩) hbl).trans c1
        have d2 := (hG.1.cell (p := ⟨b, off + 2, none⟩) hbl).trans c2
        go_simp
      | 3, ho, hn, haft =>
        obtain rfl := Option.some.inj ho
        rw [if_pos (by rfl)]
        refine .inl ⟨(.slice (some ⟨b, off, none⟩) n c), wx, ?_, gr_pure hG rfl⟩
        go_simp
      | 4, ho, hn, haft =>
        obtain rfl := Option.some.inj ho
        obtain ⟨v3, h3⟩ := Option.isSome_iff_exists.1 (haft ⟨3, .data⟩ (by simp) rfl)
        obtain rfl : v3 = (.slice (some ⟨b, off, none⟩) n c) := hG.2 3 v3 h3
        have e55 : ax.tmps.getD 55 undef = (.slice (some ⟨b, off, none⟩) n c) := hf.come 3 _ 55 _ rfl rfl h3
        rw [if_pos (by rfl)]
        refine .inl ⟨(.pointer (some ⟨b, off + 2, none⟩)), wx, ?_, gr_pure hG rfl⟩
        have hn1 : ((1 : Int)) < (n : Int) := by omega
        have hn2 : ((2 : Int)) < (n : Int) := by omega
        have hn0 : ((0 : Int)) < (n : Int) := by omega
        go_simp
        try omega
      | 5, ho, hn, haft =>
        obtain rfl := Option.some.inj ho
        obtain ⟨v4, h4⟩ := Option.isSome_iff_exists.1 (haft ⟨4, .data⟩ (by simp) rfl)
        obtain rfl : v4 = (.pointer (some ⟨b, off + 2, none⟩)) := hG.2 4 v4 h4
        have e56 : ax.tmps.getD 56 undef = (.pointer (some ⟨b, off + 2, none⟩)) := hf.come 4 _ 56 _ rfl rfl h4
        rw [if_pos (by rfl)]
        refine .inl ⟨(.int .i64 k2), wx, ?_, gr_pure hG rfl⟩
        have d0 := (hG.1.cell (p := ⟨b, off, none⟩) hbl).trans c0
        have d1 := (hG.1.cell (p := ⟨b, off + 1, none⟩) hbl).trans c1
        have d2 := (hG.1.cell (p := ⟨b, off + 2, none⟩) hbl).trans c2
        go_simp
      | 6, ho, hn, haft =>
        obtain rfl := Option.some.inj ho
        obtain ⟨v2, h2⟩ := Option.isSome_iff_exists.1 (haft ⟨2, .data⟩ (by simp) rfl)
        obtain rfl : v2 = (.int .i64 k1) := hG.2 2 v2 h2
        have e54 : ax.tmps.getD 54 undef = (.int .i64 k1) := hf.come 2 _ 54 _ rfl rfl h2
        obtain ⟨v5, h5⟩ := Option.isSome_iff_exists.1 (haft ⟨5, .data⟩ (by simp) rfl)
        obtain rfl : v5 = (.int .i64 k2) := hG.2 5 v5 h5
        have e57 : ax.tmps.getD 57 undef = (.int .i64 k2) := hf.come 5 _ 57 _ rfl rfl h5
        rw [if_pos (by rfl)]
        refine .inr (.inr ⟨66, #[.int .i64 k1, .int .i64 k2], _, by go_simp, HSm.out wx, ?_⟩)
        rintro e w1 ⟨rfl, rfl⟩
        exact ⟨_, rfl, gr_pure hG rfl⟩
      | 7, ho, hn, haft =>
        obtain rfl := Option.some.inj ho
        rw [if_pos (by rfl)]
        refine .inl ⟨(.slice (some ⟨b, off, none⟩) n c), wx, ?_, gr_pure hG rfl⟩
        go_simp
      | 8, ho, hn, haft =>
        obtain rfl := Option.some.inj ho
        obtain ⟨v7, h7⟩ := Option.isSome_iff_exists.1 (haft ⟨7, .data⟩ (by simp) rfl)
        obtain rfl : v7 = (.slice (some ⟨b, off, none⟩) n c) := hG.2 7 v7 h7
        have e59 : ax.tmps.getD 59 undef = (.slice (some ⟨b, off, none⟩) n c) := hf.come 7 _ 59 _ rfl rfl h7
        rw [if_pos (by rfl)]
        refine .inl ⟨(.pointer (some ⟨b, off, none⟩)), wx, ?_, gr_pure hG rfl⟩
        have hn1 : ((1 : Int)) < (n : Int) := by omega
        have hn2 : ((2 : Int)) < (n : Int) := by omega
        have hn0 : ((0 : Int)) < (n : Int) := by omega
        go_simp
        try omega
      | 9, ho, hn, haft =>
        obtain rfl := Option.some.inj ho
        obtain ⟨v8, h8⟩ := Option.isSome_iff_exists.1 (haft ⟨8, .data⟩ (by simp) rfl)
        obtain rfl : v8 = (.pointer (some ⟨b, off, none⟩)) := hG.2 8 v8 h8
        have e60 : ax.tmps.getD 60 undef = (.pointer (some ⟨b, off, none⟩)) := hf.come 8 _ 60 _ rfl rfl h8
        rw [if_pos (by rfl)]
        refine .inl ⟨(.int .i64 k0), wx, ?_, gr_pure hG rfl⟩
        have d0 := (hG.1.cell (p := ⟨b, off, none⟩) hbl).trans c0
        have d1 := (hG.1.cell (p := ⟨b, off + 1, none⟩) hbl).trans c1
        have d2 := (hG.1.cell (p := ⟨b, off + 2, none⟩) hbl).trans c2
        go_simp
      | 10, ho, hn, haft =>
        obtain rfl := Option.some.inj ho
        obtain ⟨v9, h9⟩ := Option.isSome_iff_exists.1 (haft ⟨9, .data⟩ (by simp) rfl)
        obtain rfl : v9 = (.int .i64 k0) := hG.2 9 v9 h9
        have e61 : ax.tmps.getD 61 undef = (.int .i64 k0) := hf.come 9 _ 61 _ rfl rfl h9
        rw [if_pos (by rfl)]
        refine .inl ⟨.slice (some ⟨wx.heap.size, 0, none⟩) 1 1, wx.alloc (.cells #[.int .i64 k0] 23), ?_, gr_more (ifFfalse_up _ _ _ _ _ _ _ _ _) hG ((Below.refl _ _).alloc (Nat.le_refl _) _) ⟨wx.heap.size, rfl, by rw [World.cell?_alloc_at _ _ _ _ rfl]; rfl⟩⟩
        have e61b := e61
        rw [Array.getD_eq_getD_getElem?] at e61b
        go_simp
      | 11, ho, hn, haft =>
        obtain rfl := Option.some.inj ho
        obtain ⟨v10, h10⟩ := Option.isSome_iff_exists.1 (haft ⟨10, .data⟩ (by simp) rfl)
        have e62 : ax.tmps.getD 62 undef = v10 := hf.come 10 _ 62 _ rfl rfl h10
        rw [if_pos (by rfl)]
        obtain ⟨g, rfl, hc⟩ := hG.2 10 v10 h10
        refine .inr (.inr ⟨65, #[.int .i64 3, .slice (some ⟨g, 0, none⟩) 1 1], _, by go_simp, HAl.out g wx hc, ?_⟩)
        rintro e w1 ⟨rfl, rfl⟩
        exact ⟨_, rfl, gr_pure hG rfl⟩
      | 12, ho, hn, haft =>
        obtain rfl := Option.some.inj ho
        obtain ⟨v11, h11⟩ := Option.isSome_iff_exists.1 (haft ⟨11, .data⟩ (by simp) rfl)
        obtain rfl : v11 = (.bool false) := hG.2 11 v11 h11
        have e63 : ax.tmps.getD 63 undef = (.bool false) := hf.come 11 _ 63 _ rfl rfl h11
        rw [if_pos (by rfl)]
        refine .inl ⟨(.bool false), wx, ?_, gr_pure hG rfl⟩
        go_simp
      | 13, ho, hn, haft =>
        obtain rfl := Option.some.inj ho
        obtain ⟨v12, h12⟩ := Option.isSome_iff_exists.1 (haft ⟨12, .guard⟩ (by simp) rfl)
        obtain rfl : v12 = (.bool false) := hG.2 12 v12 h12
        have e64 : ax.tmps.getD 64 undef = (.bool false) := hf.come 12 _ 64 _ rfl rfl h12
        rw [if_neg (by rw [wanted_of rfl rfl e64]; exact Bool.false_ne_true)]
        exact gr_pure hG trivial
      | 14, ho, hn, haft =>
        obtain rfl := Option.some.inj ho
        obtain ⟨v12, h12⟩ := Option.isSome_iff_exists.1 (haft ⟨12, .guard⟩ (by simp) rfl)
        obtain rfl : v12 = (.bool false) := hG.2 12 v12 h12
        have e64 : ax.tmps.getD 64 undef = (.bool false) := hf.come 12 _ 64 _ rfl rfl h12
        rw [if_neg (by rw [wanted_of rfl rfl e64]; exact Bool.false_ne_true)]
        exact gr_pure hG trivial
      | 15, ho, hn, haft =>
        obtain rfl := Option.some.inj ho
        obtain ⟨v12, h12⟩ := Option.isSome_iff_exists.1 (haft ⟨12, .guard⟩ (by simp) rfl)
        obtain rfl : v12 = (.bool false) := hG.2 12 v12 h12
        have e64 : ax.tmps.getD 64 undef = (.bool false) := hf.come 12 _ 64 _ rfl rfl h12
        rw [if_neg (by rw [wanted_of rfl rfl e64]; exact Bool.false_ne_true)]
        exact gr_pure hG trivial
      | 16, ho, hn, haft =>
        obtain rfl := Option.some.inj ho
        obtain ⟨v12, h12⟩ := Option.isSome_iff_exists.1 (haft ⟨12, .guard⟩ (by simp) rfl)
        obtain rfl : v12 = (.bool false) := hG.2 12 v12 h12
        have e64 : ax.tmps.getD 64 undef = (.bool false) := hf.come 12 _ 64 _ rfl rfl h12
        rw [if_neg (by rw [wanted_of rfl rfl e64]; exact Bool.false_ne_true)]
        exact gr_pure hG trivial
      | 17, ho, hn, haft =>
        obtain rfl := Option.some.inj ho
        obtain ⟨v12, h12⟩ := Option.isSome_iff_exists.1 (haft ⟨12, .guard⟩ (by simp) rfl)
        obtain rfl : v12 = (.bool false) := hG.2 12 v12 h12
        have e64 : ax.tmps.getD 64 undef = (.bool false) := hf.come 12 _ 64 _ rfl rfl h12
        rw [if_neg (by rw [wanted_of rfl rfl e64]; exact Bool.false_ne_true)]
        exact gr_pure hG trivial
      | 18, ho, hn, haft =>
        obtain rfl := Option.some.inj ho
        obtain ⟨v12, h12⟩ := Option.isSome_iff_exists.1 (haft ⟨12, .guard⟩ (by simp) rfl)
        obtain rfl : v12 = (.bool false) := hG.2 12 v12 h12
        have e64 : ax.tmps.getD 64 undef = (.bool false) := hf.come 12 _ 64 _ rfl rfl h12
        rw [if_neg (by rw [wanted_of rfl rfl e64]; exact Bool.false_ne_true)]
        exact gr_pure hG trivial
      | 19, ho, hn, haft =>
        obtain rfl := Option.some.inj ho
        obtain ⟨v12, h12⟩ := Option.isSome_iff_exists.1 (haft ⟨12, .guard⟩ (by simp) rfl)
        obtain rfl : v12 = (.bool false) := hG.2 12 v12 h12
        have e64 : ax.tmps.getD 64 undef = (.bool false) := hf.come 12 _ 64 _ rfl rfl h12
        rw [if_neg (by rw [wanted_of rfl rfl e64]; exact Bool.false_ne_true)]
        exact gr_pure hG trivial
      | 20, ho, hn, haft =>
        obtain rfl := Option.some.inj ho
        obtain ⟨v12, h12⟩ := Option.isSome_iff_exists.1 (haft ⟨12, .data⟩ (by simp) rfl)
        obtain rfl : v12 = (.bool false) := hG.2 12 v12 h12
        have e64 : ax.tmps.getD 64 undef = (.bool false) := hf.come 12 _ 64 _ rfl rfl h12
        rw [if_pos (by rfl)]
        refine .inl ⟨(.bool false), wx, ?_, gr_pure hG rfl⟩
        go_simp
      | 21, ho, hn, haft =>
        obtain rfl := Option.some.inj ho
        obtain ⟨v6, h6⟩ := Option.isSome_iff_exists.1 (haft ⟨6, .data⟩ (by simp) rfl)
        obtain rfl : v6 = (.int .i64 SM) := hG.2 6 v6 h6
        have e58 : ax.tmps.getD 58 undef = (.int .i64 SM) := hf.come 6 _ 58 _ rfl rfl h6
        rw [if_pos (by rfl)]
        refine .inl ⟨(.int .i64 SM), wx, ?_, gr_pure hG rfl⟩
        go_simp
      | 22, ho, hn, haft =>
        obtain rfl := Option.some.inj ho
        obtain ⟨v20, h20⟩ := Option.isSome_iff_exists.1 (haft ⟨20, .data⟩ (by simp) rfl)
        obtain rfl : v20 = (.bool false) := hG.2 20 v20 h20
        have e72 : ax.tmps.getD 72 undef = (.bool false) := hf.come 20 _ 72 _ rfl rfl h20
        rw [if_pos (by rfl)]
        refine .inl ⟨(.bool false), wx, ?_, gr_pure hG rfl⟩
        go_simp
      | (i + 23), ho, hn, haft => cases ho
    case hend =>
      intro st wx ax hall hG hf
      obtain ⟨v21, h21⟩ := Option.isSome_iff_exists.1 (hall 21 (by decide))
      obtain rfl : v21 = (.int .i64 SM) := hG.2 21 v21 h21
      obtain ⟨v22, h22⟩ := Option.isSome_iff_exists.1 (hall 22 (by decide))
      obtain rfl : v22 = (.bool false) := hG.2 22 v22 h22
      have hb := Lib.hid hG.1
      obtain ⟨z, hz⟩ : ∃ z : Nat → Value, z = fun i => ax.tmps.getD i undef := ⟨_, rfl⟩
      have hax : ax = ⟨((List.range 75).map z).toArray, ax.defers⟩ := by rw [hz]; exact frame_list (hf.size.trans (by rfl))
      have hde : ax.defers = [] := hf.defers
      rw [hde] at hax
      have hax2 : ax = ⟨#[z 0, z 1, z 2, z 3, z 4, z 5, z 6, z 7, z 8, z 9, z 10, z 11, z 12, z 13, z 14, z 15, z 16, z 17, z 18, z 19, z 20, z 21, z 22, z 23, z 24, z 25, z 26, z 27, z 28, z 29, z 30, z 31, z 32, z 33, z 34, z 35, z 36, z 37, z 38, z 39, z 40, z 41, z 42, z 43, z 44, z 45, z 46, z 47, z 48, z 49, z 50, z 51, z 52, z 53, z 54, z 55, z 56, z 57, z 58, z 59, z 60, z 61, z 62, z 63, z 64, z 65, z 66, z 67, z 68, z 69, z 70, z 71, z 72, z 73, z 74], []⟩ := hax
      have z4 : z 4 = (.int .i64 SM) := by rw [hz]; exact hf.come 21 _ 4 _ rfl rfl h21
      have z5 : z 5 = (.bool false) := by rw [hz]; exact hf.come 22 _ 5 _ rfl rfl h22
      clear hz hax hde
      subst hax2
      rw [z4, z5]
      clear hf hG hall z4 z5 h21 h22
      go_wp2_with fail
      go_ret2
      exact ⟨rfl, hb.out⟩
  · rw [Bool.true_and]
    go_enter Tryd.func51, Tryd.ntmps51
    go_wp2_with fail
    refine wp_region_relyG (Gr w (ifFtrue b off n c k0 k1 k2 SM B)) (by kernel_rfl) (by kernel_rfl) ⟨(Below.refl _ _).drew, fun j v h => by cases h⟩ ?hstep ?hend
    case hstep =>
      intro st wx i o ax ho hn haft hG hf
      have f1 : ax.tmps.getD 1 undef = (.slice (some ⟨b, off, none⟩) n c) := frame_stay hf (by kernel_rfl)
      match i, ho, hn, haft with
      | 0, ho, hn, haft =>
        obtain rfl := Option.some.inj ho
        rw [if_pos (by rfl)]
        refine .inl ⟨(.slice (some ⟨b, off, none⟩) n c), wx, ?_, gr_pure hG rfl⟩
        go_simp
      | 1, ho, hn, haft =>
        obtain rfl := Option.some.inj ho
        obtain ⟨v0, h0⟩ := Option.isSome_iff_exists.1 (haft ⟨0, .data⟩ (by simp) rfl)
        obtain rfl : v0 = (.slice (some ⟨b, off, none⟩) n c) := hG.2 0 v0 h0
        have e52 : ax.tmps.getD 52 undef = (.slice (some ⟨b, off, none⟩) n c) := hf.come 0 _ 52 _ rfl rfl h0
        rw [if_pos (by rfl)]
        refine .inl ⟨(.pointer (some ⟨b, off + 1, none⟩)), wx, ?_, gr_pure hG rfl⟩
        have hn1 : ((1 : Int)) < (n : Int) := by omega
        have hn2 : ((2 : Int)) < (n : Int) := by omega
        have hn0 : ((0 : Int)) < (n : Int) := by omega
        go_simp
        try omega
      | 2, ho, hn, haft =>
        obtain rfl := Option.some.inj ho
        obtain ⟨v1, h1⟩ := Option.isSome_iff_exists.1 (haft ⟨1, .data⟩ (by simp) rfl)
        obtain rfl : v1 = (.pointer (some ⟨b, off + 1, none⟩)) := hG.2 1 v1 h1
        have e53 : ax.tmps.getD 53 undef = (.pointer (some ⟨b, off + 1, none⟩)) := hf.come 1 _ 53 _ rfl rfl h1
        rw [if_pos (by rfl)]
        refine .inl ⟨(.int .i64 k1), wx, ?_, gr_pure hG rfl⟩
        have d0 := (hG.1.cell (p := ⟨b, off, none⟩) hbl).trans c0
        have d1 := (hG.1.cell (p := ⟨b, off + 1, none⟩) hbl).trans c1
        have d2 := (hG.1.cell (p := ⟨b, off + 2, none⟩) hbl).trans c2
        go_simp
      | 3, ho, hn, haft =>
        obtain rfl := Option.some.inj ho
        rw [if_pos (by rfl)]
        refine .inl ⟨(.slice (some ⟨b, off, none⟩) n c), wx, ?_, gr_pure hG rfl⟩
        go_simp
      | 4, ho, hn, haft =>
        obtain rfl := Option.some.inj ho
        obtain ⟨v3, h3⟩ := Option.isSome_iff_exists.1 (haft ⟨3, .data⟩ (by simp) rfl)
        obtain rfl : v3 = (.slice (some ⟨b, off, none⟩) n c) := hG.2 3 v3 h3
        have e55 : ax.tmps.getD 55 undef = (.slice (some ⟨b, off, none⟩) n c) := hf.come 3 _ 55 _ rfl rfl h3
        rw [if_pos (by rfl)]
        refine .inl ⟨(.pointer (some ⟨b, off + 2, none⟩)), wx, ?_, gr_pure hG rfl⟩
        have hn1 : ((1 : Int)) < (n : Int) := by omega
        have hn2 : ((2 : Int)) < (n : Int) := by omega
        have hn0 : ((0 : Int)) < (n : Int) := by omega
        go_simp
        try omega
      | 5, ho, hn, haft =>
        obtain rfl := Option.some.inj ho
        obtain ⟨v4, h4⟩ := Option.isSome_iff_exists.1 (haft ⟨4, .data⟩ (by simp) rfl)
        obtain rfl : v4 = (.pointer (some ⟨b, off + 2, none⟩)) := hG.2 4 v4 h4
        have e56 : ax.tmps.getD 56 undef = (.pointer (some ⟨b, off + 2, none⟩)) := hf.come 4 _ 56 _ rfl rfl h4
        rw [if_pos (by rfl)]
        refine .inl ⟨(.int .i64 k2), wx, ?_, gr_pure hG rfl⟩
        have d0 := (hG.1.cell (p := ⟨b, off, none⟩) hbl).trans c0
        have d1 := (hG.1.cell (p := ⟨b, off + 1, none⟩) hbl).trans c1
        have d2 := (hG.1.cell (p := ⟨b, off + 2, none⟩) hbl).trans c2
        go_simp
      | 6, ho, hn, haft =>
        obtain rfl := Option.some.inj ho
        obtain ⟨v2, h2⟩ := Option.isSome_iff_exists.1 (haft ⟨2, .data⟩ (by simp) rfl)
        obtain rfl : v2 = (.int .i64 k1) := hG.2 2 v2 h2
        have e54 : ax.tmps.getD 54 undef = (.int .i64 k1) := hf.come 2 _ 54 _ rfl rfl h2
        obtain ⟨v5, h5⟩ := Option.isSome_iff_exists.1 (haft ⟨5, .data⟩ (by simp) rfl)
        obtain rfl : v5 = (.int .i64 k2) := hG.2 5 v5 h5
        have e57 : ax.tmps.getD 57 undef = (.int .i64 k2) := hf.come 5 _ 57 _ rfl rfl h5
        rw [if_pos (by rfl)]
        refine .inr (.inr ⟨66, #[.int .i64 k1, .int .i64 k2], _, by go_simp, HSm.out wx, ?_⟩)
        rintro e w1 ⟨rfl, rfl⟩
        exact ⟨_, rfl, gr_pure hG rfl⟩
      | 7, ho, hn, haft =>
        obtain rfl := Option.some.inj ho
        rw [if_pos (by rfl)]
        refine .inl ⟨(.slice (some ⟨b, off, none⟩) n c), wx, ?_, gr_pure hG rfl⟩
        go_simp
      | 8, ho, hn, haft =>
        obtain rfl := Option.some.inj ho
        obtain ⟨v7, h7⟩ := Option.isSome_iff_exists.1 (haft ⟨7, .data⟩ (by simp) rfl)
        obtain rfl : v7 = (.slice (some ⟨b, off, none⟩) n c) := hG.2 7 v7 h7
        have e59 : ax.tmps.getD 59 undef = (.slice (some ⟨b, off, none⟩) n c) := hf.come 7 _ 59 _ rfl rfl h7
        rw [if_pos (by rfl)]
        refine .inl ⟨(.pointer (some ⟨b, off, none⟩)), wx, ?_, gr_pure hG rfl⟩
        have hn1 : ((1 : Int)) < (n : Int) := by omega
        have hn2 : ((2 : Int)) < (n : Int) := by omega
        have hn0 : ((0 : Int)) < (n : Int) := by omega
        go_simp
        try omega
      | 9, ho, hn, haft =>
        obtain rfl := Option.some.inj ho
        obtain ⟨v8, h8⟩ := Option.isSome_iff_exists.1 (haft ⟨8, .data⟩ (by simp) rfl)
        obtain rfl : v8 = (.pointer (some ⟨b, off, none⟩)) := hG.2 8 v8 h8
        have e60 : ax.tmps.getD 60 undef = (.pointer (some ⟨b, off, none⟩)) := hf.come 8 _ 60 _ rfl rfl h8
        rw [if_pos (by rfl)]
        refine .inl ⟨(.int .i64 k0), wx, ?_, gr_pure hG rfl⟩
        have d0 := (hG.1.cell (p := ⟨b, off, none⟩) hbl).trans c0
        have d1 := (hG.1.cell (p := ⟨b, off + 1, none⟩) hbl).trans c1
        have d2 := (hG.1.cell (p := ⟨b, off + 2, none⟩) hbl).trans c2
        go_simp
      | 10, ho, hn, haft =>
        obtain rfl := Option.some.inj ho
        obtain ⟨v9, h9⟩ := Option.isSome_iff_exists.1 (haft ⟨9, .data⟩ (by simp) rfl)
        obtain rfl : v9 = (.int .i64 k0) := hG.2 9 v9 h9
        have e61 : ax.tmps.getD 61 undef = (.int .i64 k0) := hf.come 9 _ 61 _ rfl rfl h9
        rw [if_pos (by rfl)]
        refine .inl ⟨.slice (some ⟨wx.heap.size, 0, none⟩) 1 1, wx.alloc (.cells #[.int .i64 k0] 23), ?_, gr_more (ifFtrue_up _ _ _ _ _ _ _ _ _) hG ((Below.refl _ _).alloc (Nat.le_refl _) _) ⟨wx.heap.size, rfl, by rw [World.cell?_alloc_at _ _ _ _ rfl]; rfl⟩⟩
        have e61b := e61
        rw [Array.getD_eq_getD_getElem?] at e61b
        go_simp
      | 11, ho, hn, haft =>
        obtain rfl := Option.some.inj ho
        obtain ⟨v10, h10⟩ := Option.isSome_iff_exists.1 (haft ⟨10, .data⟩ (by simp) rfl)
        have e62 : ax.tmps.getD 62 undef = v10 := hf.come 10 _ 62 _ rfl rfl h10
        rw [if_pos (by rfl)]
        obtain ⟨g, rfl, hc⟩ := hG.2 10 v10 h10
        refine .inr (.inr ⟨65, #[.int .i64 3, .slice (some ⟨g, 0, none⟩) 1 1], _, by go_simp, HAl.out g wx hc, ?_⟩)
        rintro e w1 ⟨rfl, rfl⟩
        exact ⟨_, rfl, gr_pure hG rfl⟩
      | 12, ho, hn, haft =>
        obtain rfl := Option.some.inj ho
        obtain ⟨v11, h11⟩ := Option.isSome_iff_exists.1 (haft ⟨11, .data⟩ (by simp) rfl)
        obtain rfl : v11 = (.bool true) := hG.2 11 v11 h11
        have e63 : ax.tmps.getD 63 undef = (.bool true) := hf.come 11 _ 63 _ rfl rfl h11
        rw [if_pos (by rfl)]
        refine .inl ⟨(.bool true), wx, ?_, gr_pure hG rfl⟩
        go_simp
      | 13, ho, hn, haft =>
        obtain rfl := Option.some.inj ho
        obtain ⟨v12, h12⟩ := Option.isSome_iff_exists.1 (haft ⟨12, .guard⟩ (by simp) rfl)
        obtain rfl : v12 = (.bool true) := hG.2 12 v12 h12
        have e64 : ax.tmps.getD 64 undef = (.bool true) := hf.come 12 _ 64 _ rfl rfl h12
        rw [if_pos (by rw [wanted_of rfl rfl e64]; rfl)]
        refine .inl ⟨(.slice (some ⟨b, off, none⟩) n c), wx, ?_, gr_pure hG rfl⟩
        go_simp
      | 14, ho, hn, haft =>
        obtain rfl := Option.some.inj ho
        obtain ⟨v13, h13⟩ := Option.isSome_iff_exists.1 (haft ⟨13, .data⟩ (by simp) rfl)
        obtain rfl : v13 = (.slice (some ⟨b, off, none⟩) n c) := hG.2 13 v13 h13
        have e65 : ax.tmps.getD 65 undef = (.slice (some ⟨b, off, none⟩) n c) := hf.come 13 _ 65 _ rfl rfl h13
        obtain ⟨v12, h12⟩ := Option.isSome_iff_exists.1 (haft ⟨12, .guard⟩ (by simp) rfl)
        obtain rfl : v12 = (.bool true) := hG.2 12 v12 h12
        have e64 : ax.tmps.getD 64 undef = (.bool true) := hf.come 12 _ 64 _ rfl rfl h12
        rw [if_pos (by rw [wanted_of rfl rfl e64]; rfl)]
        refine .inl ⟨(.pointer (some ⟨b, off + 1, none⟩)), wx, ?_, gr_pure hG rfl⟩
        have hn1 : ((1 : Int)) < (n : Int) := by omega
        have hn2 : ((2 : Int)) < (n : Int) := by omega
        have hn0 : ((0 : Int)) < (n : Int) := by omega
        go_simp
        try omega
      | 15, ho, hn, haft =>
        obtain rfl := Option.some.inj ho
        obtain ⟨v14, h14⟩ := Option.isSome_iff_exists.1 (haft ⟨14, .data⟩ (by simp) rfl)
        obtain rfl : v14 = (.pointer (some ⟨b, off + 1, none⟩)) := hG.2 14 v14 h14
        have e66 : ax.tmps.getD 66 undef = (.pointer (some ⟨b, off + 1, none⟩)) := hf.come 14 _ 66 _ rfl rfl h14
        obtain ⟨v12, h12⟩ := Option.isSome_iff_exists.1 (haft ⟨12, .guard⟩ (by simp) rfl)
        obtain rfl : v12 = (.bool true) := hG.2 12 v12 h12
        have e64 : ax.tmps.getD 64 undef = (.bool true) := hf.come 12 _ 64 _ rfl rfl h12
        rw [if_pos (by rw [wanted_of rfl rfl e64]; rfl)]
        refine .inl ⟨(.int .i64 k1), wx, ?_, gr_pure hG rfl⟩
        have d0 := (hG.1.cell (p := ⟨b, off, none⟩) hbl).trans c0
        have d1 := (hG.1.cell (p := ⟨b, off + 1, none⟩) hbl).trans c1
        have d2 := (hG.1.cell (p := ⟨b, off + 2, none⟩) hbl).trans c2
        go_simp
      | 16, ho, hn, haft =>
        obtain rfl := Option.some.inj ho
        obtain ⟨v12, h12⟩ := Option.isSome_iff_exists.1 (haft ⟨12, .guard⟩ (by simp) rfl)
        obtain rfl : v12 = (.bool true) := hG.2 12 v12 h12
        have e64 : ax.tmps.getD 64 undef = (.bool true) := hf.come 12 _ 64 _ rfl rfl h12
        rw [if_pos (by rw [wanted_of rfl rfl e64]; rfl)]
        refine .inl ⟨(.slice (some ⟨b, off, none⟩) n c), wx, ?_, gr_pure hG rfl⟩
        go_simp
      | 17, ho, hn, haft =>
        obtain rfl := Option.some.inj ho
        obtain ⟨v16, h16⟩ := Option.isSome_iff_exists.1 (haft ⟨16, .data⟩ (by simp) rfl)
        obtain rfl : v16 = (.slice (some ⟨b, off, none⟩) n c) := hG.2 16 v16 h16
        have e68 : ax.tmps.getD 68 undef = (.slice (some ⟨b, off, none⟩) n c) := hf.come 16 _ 68 _ rfl rfl h16
        obtain ⟨v12, h12⟩ := Option.isSome_iff_exists.1 (haft ⟨12, .guard⟩ (by simp) rfl)
        obtain rfl : v12 = (.bool true) := hG.2 12 v12 h12
        have e64 : ax.tmps.getD 64 undef = (.bool true) := hf.come 12 _ 64 _ rfl rfl h12
        rw [if_pos (by rw [wanted_of rfl rfl e64]; rfl)]
        refine .inl ⟨(.pointer (some ⟨b, off + 2, none⟩)), wx, ?_, gr_pure hG rfl⟩
        have hn1 : ((1 : Int)) < (n : Int) := by omega
        have hn2 : ((2 : Int)) < (n : Int) := by omega
        have hn0 : ((0 : Int)) < (n : Int) := by omega
        go_simp
        try omega
      | 18, ho, hn, haft =>
        obtain rfl := Option.some.inj ho
        obtain ⟨v17, h17⟩ := Option.isSome_iff_exists.1 (haft ⟨17, .data⟩ (by simp) rfl)
        obtain rfl : v17 = (.pointer (some ⟨b, off + 2, none⟩)) := hG.2 17 v17 h17
        have e69 : ax.tmps.getD 69 undef = (.pointer (some ⟨b, off + 2, none⟩)) := hf.come 17 _ 69 _ rfl rfl h17
        obtain ⟨v12, h12⟩ := Option.isSome_iff_exists.1 (haft ⟨12, .guard⟩ (by simp) rfl)
        obtain rfl : v12 = (.bool true) := hG.2 12 v12 h12
        have e64 : ax.tmps.getD 64 undef = (.bool true) := hf.come 12 _ 64 _ rfl rfl h12
        rw [if_pos (by rw [wanted_of rfl rfl e64]; rfl)]
        refine .inl ⟨(.int .i64 k2), wx, ?_, gr_pure hG rfl⟩
        have d0 := (hG.1.cell (p := ⟨b, off, none⟩) hbl).trans c0
        have d1 := (hG.1.cell (p := ⟨b, off + 1, none⟩) hbl).trans c1
        have d2 := (hG.1.cell (p := ⟨b, off + 2, none⟩) hbl).trans c2
        go_simp
      | 19, ho, hn, haft =>
        obtain rfl := Option.some.inj ho
        obtain ⟨v15, h15⟩ := Option.isSome_iff_exists.1 (haft ⟨15, .data⟩ (by simp) rfl)
        obtain rfl : v15 = (.int .i64 k1) := hG.2 15 v15 h15
        have e67 : ax.tmps.getD 67 undef = (.int .i64 k1) := hf.come 15 _ 67 _ rfl rfl h15
        obtain ⟨v18, h18⟩ := Option.isSome_iff_exists.1 (haft ⟨18, .data⟩ (by simp) rfl)
        obtain rfl : v18 = (.int .i64 k2) := hG.2 18 v18 h18
        have e70 : ax.tmps.getD 70 undef = (.int .i64 k2) := hf.come 18 _ 70 _ rfl rfl h18
        obtain ⟨v12, h12⟩ := Option.isSome_iff_exists.1 (haft ⟨12, .guard⟩ (by simp) rfl)
        obtain rfl : v12 = (.bool true) := hG.2 12 v12 h12
        have e64 : ax.tmps.getD 64 undef = (.bool true) := hf.come 12 _ 64 _ rfl rfl h12
        rw [if_pos (by rw [wanted_of rfl rfl e64]; rfl)]
        refine .inr (.inr ⟨10, #[.int .i64 k1, .int .i64 k2], _, by go_simp, HF.out wx, ?_⟩)
        rintro e w1 ⟨rfl, rfl⟩
        exact ⟨_, rfl, gr_pure hG rfl⟩
      | 20, ho, hn, haft =>
        obtain rfl := Option.some.inj ho
        obtain ⟨v12, h12⟩ := Option.isSome_iff_exists.1 (haft ⟨12, .data⟩ (by simp) rfl)
        obtain rfl : v12 = (.bool true) := hG.2 12 v12 h12
        have e64 : ax.tmps.getD 64 undef = (.bool true) := hf.come 12 _ 64 _ rfl rfl h12
        obtain ⟨v19, h19⟩ := Option.isSome_iff_exists.1 (haft ⟨19, .data⟩ (by simp) rfl)
        obtain rfl : v19 = (.bool B) := hG.2 19 v19 h19
        have e71 : ax.tmps.getD 71 undef = (.bool B) := hf.come 19 _ 71 _ rfl rfl h19
        rw [if_pos (by rfl)]
        refine .inl ⟨(.bool B), wx, ?_, gr_pure hG rfl⟩
        go_simp
      | 21, ho, hn, haft =>
        obtain rfl := Option.some.inj ho
        obtain ⟨v6, h6⟩ := Option.isSome_iff_exists.1 (haft ⟨6, .data⟩ (by simp) rfl)
        obtain rfl : v6 = (.int .i64 SM) := hG.2 6 v6 h6
        have e58 : ax.tmps.getD 58 undef = (.int .i64 SM) := hf.come 6 _ 58 _ rfl rfl h6
        rw [if_pos (by rfl)]
        refine .inl ⟨(.int .i64 SM), wx, ?_, gr_pure hG rfl⟩
        go_simp
      | 22, ho, hn, haft =>
        obtain rfl := Option.some.inj ho
        obtain ⟨v20, h20⟩ := Option.isSome_iff_exists.1 (haft ⟨20, .data⟩ (by simp) rfl)
        obtain rfl : v20 = (.bool B) := hG.2 20 v20 h20
        have e72 : ax.tmps.getD 72 undef = (.bool B) := hf.come 20 _ 72 _ rfl rfl h20
        rw [if_pos (by rfl)]
        refine .inl ⟨(.bool B), wx, ?_, gr_pure hG rfl⟩
        go_simp
      | (i + 23), ho, hn, haft => cases ho
    case hend =>
      intro st wx ax hall hG hf
      obtain ⟨v21, h21⟩ := Option.isSome_iff_exists.1 (hall 21 (by decide))
      obtain rfl : v21 = (.int .i64 SM) := hG.2 21 v21 h21
      obtain ⟨v22, h22⟩ := Option.isSome_iff_exists.1 (hall 22 (by decide))
      obtain rfl : v22 = (.bool B) := hG.2 22 v22 h22
      have hb := Lib.hid hG.1
      obtain ⟨z, hz⟩ : ∃ z : Nat → Value, z = fun i => ax.tmps.getD i undef := ⟨_, rfl⟩
      have hax : ax = ⟨((List.range 75).map z).toArray, ax.defers⟩ := by rw [hz]; exact frame_list (hf.size.trans (by rfl))
      have hde : ax.defers = [] := hf.defers
      rw [hde] at hax
      have hax2 : ax = ⟨#[z 0, z 1, z 2, z 3, z 4, z 5, z 6, z 7, z 8, z 9, z 10, z 11, z 12, z 13, z 14, z 15, z 16, z 17, z 18, z 19, z 20, z 21, z 22, z 23, z 24, z 25, z 26, z 27, z 28, z 29, z 30, z 31, z 32, z 33, z 34, z 35, z 36, z 37, z 38, z 39, z 40, z 41, z 42, z 43, z 44, z 45, z 46, z 47, z 48, z 49, z 50, z 51, z 52, z 53, z 54, z 55, z 56, z 57, z 58, z 59, z 60, z 61, z 62, z 63, z 64, z 65, z 66, z 67, z 68, z 69, z 70, z 71, z 72, z 73, z 74], []⟩ := hax
      have z4 : z 4 = (.int .i64 SM) := by rw [hz]; exact hf.come 21 _ 4 _ rfl rfl h21
      have z5 : z 5 = (.bool B) := by rw [hz]; exact hf.come 22 _ 5 _ rfl rfl h22
      clear hz hax hde
      subst hax2
      rw [z4, z5]
      clear hf hG hall z4 z5 h21 h22
      go_wp2_with fail
      go_ret2
      exact ⟨rfl, hb.out⟩
set_option maxRecDepth 100000 in
set_option maxHeartbeats 6400000 in
theorem result15_any (op : Int) (ks : List Int) (a : Option Addr) (n c : Nat) (hn : ks.length = n) (hl : n ≤ 1000000) (hd : Ty.need op ≤ n) (w : World) (hR : ReadsK w a ks) : Calls Tryd.prog 51 #[.int .i64 op, .slice a n c] w (ResP op ks w) := by
  unfold ResP
  have HA := Lib.hid fun (want : Int) => all15_any want ks a n c hn hl w hR
  have HFt := Lib.hid fun k want wx => fits15_any k want wx
  have HS := Lib.hid fun k want wx => some15_any k want wx
  by_cases h4 : op = 4
  · subst h4
    have hE := Ty.res_add (ks := ks)
    clear hR
    cases h1 : Ty.all 1 ks with
    | true =>
      rw [h1, if_pos rfl] at hE
      have H1 := Lib.hid (HA.out 1)
      rw [h1] at H1
      have HE := Lib.hid hE
      clear hE h1
      rw [HE.out]
      go_enter Tryd.func51, Tryd.ntmps51
      go_wp2_with fail
      refine H1.out.mono ?_
      rintro e w1 ⟨rfl, rfl⟩
      go_wp2_with fail
      go_ret2
      exact ⟨rfl, Below.refl _ _⟩
    | false =>
      rw [h1, if_neg (by simp)] at hE
      have H1 := Lib.hid (HA.out 1)
      rw [h1] at H1
      have H2 := Lib.hid (HA.out 2)
      generalize Ty.all 2 ks = B2 at *
      have HE := Lib.hid hE
      clear hE h1
      rw [HE.out]
      go_enter Tryd.func51, Tryd.ntmps51
      go_wp2_with fail
      refine H1.out.mono ?_
      rintro e w1 ⟨rfl, rfl⟩
      go_wp2_with fail
      refine H2.out.mono ?_
      rintro e w2 ⟨rfl, rfl⟩
      go_wp2_with fail
      go_ret2
      exact ⟨rfl, Below.refl _ _⟩
  · have q4 : (op == 4) = false := by simpa using h4
    by_cases h8 : op = 8 ∨ op = 9
    · have hE := Ty.res_eq (ks := ks) h8
      have hd2 : 2 ≤ n := by unfold Ty.need at hd; rw [if_pos (by omega)] at hd; exact hd
      obtain ⟨b, off, rfl, _⟩ := hR 0 (by omega)
      have c0 := readsK_at hR (k := 0) (by omega) rfl
      have c1 := readsK_at hR (k := 1) (by omega) rfl
      rw [Nat.add_zero] at c0
      generalize ks.getD 0 0 = k0 at *
      generalize ks.getD 1 0 = k1 at *
      have HF := Lib.hid (HFt.out k0 k1)
      generalize Ty.fits k0 k1 = B at *
      have HE := Lib.hid hE
      rw [HE.out]
      clear hE hR HA HFt HS
      rcases h8 with rfl | rfl
      all_goals
        go_enter Tryd.func51, Tryd.ntmps51
        go_wp2_with fail
        go_quiet ((go_at_call 10; exact Calls.quiet_of_same (HF.out _)))
        go_wp2_with fail
        go_ret2
        exact ⟨rfl, below_drewN (Below.refl _ _) _⟩
    · by_cases h10 : op = 10 ∨ op = 11 ∨ op = 12 ∨ op = 13
      · have hE := Ty.res_lt (ks := ks) h10
        have hd2 : 2 ≤ n := by unfold Ty.need at hd; rw [if_pos (by omega)] at hd; exact hd
        obtain ⟨b, off, rfl, _⟩ := hR 0 (by omega)
        have c0 := readsK_at hR (k := 0) (by omega) rfl
        have c1 := readsK_at hR (k := 1) (by omega) rfl
        rw [Nat.add_zero] at c0
        generalize ks.getD 0 0 = k0 at *
        generalize ks.getD 1 0 = k1 at *
        have HF := Lib.hid (HFt.out k0 k1)
        have HSm := Lib.hid (HS.out k0 k1)
        generalize Ty.some2 k0 k1 = SM at *
        generalize Ty.fits k0 k1 = B at *
        have HE := Lib.hid hE
        rw [HE.out]
        have q8 : (op == 8) = false := by simp; omega
        have q9 : (op == 9) = false := by simp; omega
        clear hE hR HA HFt HS
        cases B with
        | false =>
          rcases h10 with rfl | rfl | rfl | rfl
          all_goals
            go_enter Tryd.func51, Tryd.ntmps51
            go_wp2_with fail
            go_quiet ((go_at_call 10; exact Calls.quiet_of_same (HF.out _)))
            go_wp2_with fail
            go_ret2
            exact ⟨rfl, below_drewN (Below.refl _ _) _⟩
        | true =>
          by_cases h3 : SM = 3
          · have t3 : (SM != 3) = false := by simp [h3]
            have HD := Lib.hid (decide_eq_true h3)
            rcases h10 with rfl | rfl | rfl | rfl
            all_goals
              go_enter Tryd.func51, Tryd.ntmps51
              go_wp2_with fail
              go_quiet (first | (go_at_call 10; exact Calls.quiet_of_same (HF.out _)) | (go_at_call 66; exact Calls.quiet_of_same (HSm.out _)))
              go_wp2_with fail
              go_ret2
              exact ⟨by rw [HD.out]; rfl, below_drewN (Below.refl _ _) _⟩
          · have t3 : (SM != 3) = true := by simp [h3]
            have HD := Lib.hid (decide_eq_false h3)
            rcases h10 with rfl | rfl | rfl | rfl
            all_goals
              go_enter Tryd.func51, Tryd.ntmps51
              go_wp2_with fail
              go_quiet (first | (go_at_call 10; exact Calls.quiet_of_same (HF.out _)) | (go_at_call 66; exact Calls.quiet_of_same (HSm.out _)))
              go_wp2_with fail
              go_ret2
              exact ⟨by rw [HD.out]; rfl, below_drewN (Below.refl _ _) _⟩
      · by_cases h14 : op = 14 ∨ op = 15
        · have hE := Ty.res_and (ks := ks) h14
          have H3 := Lib.hid (HA.out 3)
          generalize Ty.all 3 ks = B at *
          have HE := Lib.hid hE
          rw [HE.out]
          clear hE hR HA HFt HS
          rcases h14 with rfl | rfl
          all_goals
            go_enter Tryd.func51, Tryd.ntmps51
            go_wp2_with fail
            refine H3.out.mono ?_
            rintro e w1 ⟨rfl, rfl⟩
            go_wp2_with fail
            go_ret2
            exact ⟨rfl, Below.refl _ _⟩
        · by_cases h16 : op = 16
          · subst h16
            have hE := Ty.res_if (ks := ks)
            have hd3 : 3 ≤ n := hd
            obtain ⟨b, off, rfl, _⟩ := hR 0 (by omega)
            have c0 := readsK_at hR (k := 0) (by omega) rfl
            have c1 := readsK_at hR (k := 1) (by omega) rfl
            have c2 := readsK_at hR (k := 2) (by omega) rfl
            rw [Nat.add_zero] at c0
            rw [hE]
            exact resIf15_case _ _ _ b off n c hd3 w c0 c1 c2
          · have hE := Ty.res_num (op := op) (ks := ks) (by omega)
            have H1 := Lib.hid (HA.out 1)
            generalize Ty.all 1 ks = B at *
            have HE := Lib.hid hE
            rw [HE.out]
            have q8 : (op == 8) = false := by simp; omega
            have q9 : (op == 9) = false := by simp; omega
            have q10 : (op == 10) = false := by simp; omega
            have q11 : (op == 11) = false := by simp; omega
            have q12 : (op == 12) = false := by simp; omega
            have q13 : (op == 13) = false := by simp; omega
            have q14 : (op == 14) = false := by simp; omega
            have q15 : (op == 15) = false := by simp; omega
            have q16 : (op == 16) = false := by simpa using h16
            clear hE hR HA HFt HS
            go_enter Tryd.func51, Tryd.ntmps51
            go_wp2_with fail
            refine H1.out.mono ?_
            rintro e w1 ⟨rfl, rfl⟩
            go_wp2_with fail
            go_ret2
            exact ⟨rfl, Below.refl _ _⟩
end Go.Proofs.YtmkckbidfpinfaaDoor
