/-
  Texts of the layers, part 5: RelyC, ValDig, StrCmp, Itoa, ValText, SynWrite, SynText, SynRdr, SynOp, SynFst, SynPr2, SynFst2, Plan2, Plan3, Goto2.
-/
import Derived.Test.YtekahmlppaabjaaGreatDoorPk4
import Derived.Deep.RegionHeld3
import Derived.IntWalk
import Derived.Lib.ItoaLen
import Derived.Test.YtekahmlppaabjaaGreatDoorPk1
import Derived.Lib.Bytealg
import Derived.Laws.Externs
import Derived.Shelf.Strconv.Itoa3
import Derived.Test.YtekahmlppaabjaaGreatDoorProg
import Derived.WalkKit
import Derived.Test.YtekahmlppaabjaaGreatDoorPk3
import Derived.BigQuiet
import Derived.Test.YtekahmlppaabjaaGreatDoorPk2
import Derived.Scope
import Derived.WalkMore
import Derived.Control
/-
  As Rely, for a region that calls Go functions too; and the usual condition: each value as it is told, whatever is made behind.
-/
namespace Go.Proofs.YtekahmlppaabjaaGreatDoor
open Go.RowKit
section
variable {P : Program} {ops : Array Oper} {Q : Exit → Act → World → Prop}
/-- the step of one operation, a call among them -/
def StepsC (P : Program) (G : (Nat → Option Value) → World → Prop) (st : Nat → Option Value) (i : Nat) (o : Oper) (a : Act) (w : World) : Prop :=
  (∃ v w', (execOp a.eval o).run P w = .ok (.value v) w' ∧ G (came st i v) w') ∨ (∃ w', (execOp a.eval o).run P w = .ok .skip w' ∧ G (came st i undef) w') ∨
    (∃ f args R, (execOp a.eval o).run P w = .ok (.enter f args) w ∧ Calls P f args w R ∧ ∀ e w', R e w' → ∃ v, e = .returned v ∧ G (came st i v) w')
theorem wpAny_relyC {a0 : Act} {G : (Nat → Option Value) → World → Prop} (hok : RelyOk ops a0.tmps.size)
    (hstep : ∀ st w i o a, ops[i]? = some o → st i = none → (∀ e ∈ o.after, Region.binds .any e = true → (st e.on).isSome = true) → G st w → FrameIs ops a0 st a → if Region.wanted o (yielded ops a.tmps) = true then StepsC P G st i o a w else G (came st i undef) w)
    (hend : ∀ st w a, (∀ i, i < ops.size → (st i).isSome = true) → G st w → FrameIs ops a0 st a → Q .normal a w) :
    ∀ fuel st listed a w, left ops.size st = fuel → Told ops.size st listed → G st w → FrameIs ops a0 st a → wpAny P .any ops Q fuel listed a w := by
  have hmem : ∀ st listed, Told ops.size st listed → ∀ i, i ∈ Region.ready .any ops listed → ∃ o, ops[i]? = some o ∧ i < ops.size ∧ st i = none ∧ ∀ e ∈ o.after, Region.binds .any e = true → (st e.on).isSome = true := by
    intro st listed ht i hi
    unfold Region.ready at hi
    rw [List.mem_filter, List.mem_range] at hi
    obtain ⟨hi1, hi2⟩ := hi
    rw [Bool.and_eq_true] at hi2
    obtain ⟨o, ho⟩ : ∃ o, ops[i]? = some o := ⟨_, Array.getElem?_eq_getElem hi1⟩
    refine ⟨o, ho, hi1, ?_, fun e he hb => ?_⟩
    · have h1 := hi2.1
      rw [Array.getD_eq_getD_getElem?, ht.2 i hi1] at h1
      cases hs : st i with
      | none => rfl
      | some v => rw [hs] at h1; simp at h1
    · have h2 := hi2.2
      rw [ho] at h2
      simp only [Option.map_some, Option.getD_some] at h2
      rw [Array.all_eq_true_iff_forall_mem] at h2
      have h3 := h2 e he
      rw [hb] at h3
      simp only [Bool.not_true, Bool.false_or] at h3
      have hlt : e.on < ops.size := Nat.lt_trans (hok.after i o ho e he) hi1
      rw [Array.getD_eq_getD_getElem?, ht.2 _ hlt] at h3
      exact h3
  intro fuel
  induction fuel with
  | zero =>
    intro st listed a w hl ht hg hf
    have hall := left_zero hl
    refine ⟨?_, hend st w a hall hg hf⟩
    cases hr : Region.ready .any ops listed with
    | nil => rfl
    | cons i r =>
      obtain ⟨o, _, hi, hn, _⟩ := hmem st listed ht i (by rw [hr]; exact List.mem_cons_self ..)
      have := hall i hi
      rw [hn] at this; cases this
  | succ fuel ih =>
    intro st listed a w hl ht hg hf
    refine ⟨fun h0 => ?_, fun i hi => ?_⟩
    · -- the first that has not come up is ready
      exfalso
      have hex : ∃ i, i < ops.size ∧ st i = none := by
        refine Classical.byContradiction fun hc => ?_
        have : left ops.size st = 0 := by
          unfold left
          rw [List.countP_eq_zero]
          intro i hi
          cases hs : st i with
          | none => exact absurd ⟨i, List.mem_range.1 hi, hs⟩ hc
          | some v => simp
        omega
      obtain ⟨i, ⟨hi, hn⟩, hmin⟩ := least_of hex
      obtain ⟨o, ho⟩ : ∃ o, ops[i]? = some o := ⟨_, Array.getElem?_eq_getElem hi⟩
      have : i ∈ Region.ready .any ops listed := by
        unfold Region.ready
        rw [List.mem_filter, List.mem_range]
        refine ⟨hi, ?_⟩
        rw [Bool.and_eq_true]
        refine ⟨by rw [Array.getD_eq_getD_getElem?, ht.2 i hi, hn]; rfl, ?_⟩
        rw [ho]
        simp only [Option.map_some, Option.getD_some]
        rw [Array.all_eq_true_iff_forall_mem]
        intro e he
        have hlt := hok.after i o ho e he
        have hs : (st e.on).isSome = true := by
          cases hs : st e.on with
          | none => exact absurd ⟨Nat.lt_trans hlt hi, hs⟩ (hmin _ hlt)
          | some v => rfl
        rw [Array.getD_eq_getD_getElem?, ht.2 _ (Nat.lt_trans hlt hi), hs]
        simp
      rw [h0] at this
      cases this
    · obtain ⟨o, ho, hi1, hn, haft⟩ := hmem st listed ht i hi
      unfold wpOp
      rw [ho]
      have ht2 : ∀ v, Told ops.size (came st i v) (listed.setIfInBounds i true) := fun v => by
        refine ⟨by rw [Array.size_setIfInBounds]; exact ht.1, fun j hj => ?_⟩
        rw [Array.getElem?_setIfInBounds]
        by_cases e : i = j
        · subst e
          rw [if_pos rfl, if_pos (by rw [ht.1]; exact hi1), came_at]; rfl
        · rw [if_neg e, came_far (fun x => e x.symm)]
          exact ht.2 j hj
      have hl2 : ∀ v, left ops.size (came st i v) = fuel := fun v => by have := left_came (v := v) hi1 hn; omega
      have hst := hstep st w i o a ho hn haft hg hf
      by_cases hwf : Region.wanted o (yielded ops a.tmps) = false
      · rw [if_neg (by rw [hwf]; exact Bool.false_ne_true)] at hst
        simp only [hwf]
        exact ih _ _ _ _ (hl2 undef) (ht2 undef) hst (frame_put hok ho hf)
      have hw : Region.wanted o (yielded ops a.tmps) = true := by cases h : Region.wanted o (yielded ops a.tmps) <;> simp_all
      rw [if_pos hw] at hst
      simp only [hw, if_true]
      left
      unfold Oper.wp
      rcases hst with ⟨v, w', hrun, hg'⟩ | ⟨w', hrun, hg'⟩ | ⟨f, args, R, hrun, hc, hR⟩
      · rw [hrun]
        exact ih _ _ _ _ (hl2 v) (ht2 v) hg' (frame_put hok ho hf)
      · rw [hrun]
        exact ih _ _ _ _ (hl2 undef) (ht2 undef) hg' (frame_put hok ho hf)
      · rw [hrun, Oper.upon_enter]
        refine hc.mono fun e w' he => ?_
        obtain ⟨v, rfl, hg'⟩ := hR e w' he
        exact ih _ _ _ _ (hl2 v) (ht2 v) hg' (frame_put hok ho hf)
theorem wp_region_relyG {id : Nat} {a0 : Act} {w : World} (G : (Nat → Option Value) → World → Prop) (hm : P.follows .mixedOrders = true) (hok : relyGB ops a0.tmps.size = true) (h0 : G (fun _ => none) w.drew)
    (hstep : ∀ st w i o a, ops[i]? = some o → st i = none → (∀ e ∈ o.after, Region.binds .any e = true → (st e.on).isSome = true) → G st w → FrameIs ops a0 st a → if Region.wanted o (yielded ops a.tmps) = true then StepsC P G st i o a w else G (came st i undef) w)
    (hend : ∀ st w a, (∀ i, i < ops.size → (st i).isSome = true) → G st w → FrameIs ops a0 st a → Q .normal a w) : (Code.region id ops true).wp P Q a0 w := by
  refine wp_region_any hm ?_
  refine wpAny_relyC (relyOkG_of hok) hstep hend ops.size (fun _ => none) _ a0 w.drew ?_ ?_ h0 ?_
  · show (List.range ops.size).countP (fun _ => true) = ops.size
    rw [List.countP_true, List.length_range]
  · exact ⟨Array.size_replicate, fun i hi => by rw [Array.getElem?_replicate, if_pos hi]; rfl⟩
  · exact ⟨rfl, rfl, (fun _ _ _ _ _ _ h => by cases h), fun _ _ => rfl⟩
theorem wp_region_relyC {id : Nat} {a0 : Act} {w : World} (G : (Nat → Option Value) → World → Prop) (hm : P.follows .mixedOrders = true) (hok : relyB ops a0.tmps.size = true) (h0 : G (fun _ => none) w.drew)
    (hstep : ∀ st w i o a, ops[i]? = some o → st i = none → (∀ e ∈ o.after, Region.binds .any e = true → (st e.on).isSome = true) → G st w → FrameIs ops a0 st a → StepsC P G st i o a w)
    (hend : ∀ st w a, (∀ i, i < ops.size → (st i).isSome = true) → G st w → FrameIs ops a0 st a → Q .normal a w) : (Code.region id ops true).wp P Q a0 w := by
  refine wp_region_any hm ?_
  refine wpAny_relyC (relyOk_of hok).1 (fun st w i o a ho hn haft hg hf => by
    have hw : Region.wanted o (yielded ops a.tmps) = true := by simp [Region.wanted, (relyOk_of hok).2 i o ho]
    rw [if_pos hw]
    exact hstep st w i o a ho hn haft hg hf) hend ops.size (fun _ => none) _ a0 w.drew ?_ ?_ h0 ?_
  · show (List.range ops.size).countP (fun _ => true) = ops.size
    rw [List.countP_true, List.length_range]
  · exact ⟨Array.size_replicate, fun i hi => by rw [Array.getElem?_replicate, if_pos hi]; rfl⟩
  · exact ⟨rfl, rfl, (fun _ _ _ _ _ _ h => by cases h), fun _ _ => rfl⟩
end
/-- each value as F tells, and nothing below w0's end was turned -/
def Gr (w0 : World) (F : Nat → Value → World → Prop) (st : Nat → Option Value) (w : World) : Prop := Below w0.heap.size w0 w ∧ ∀ j v, st j = some v → F j v w
theorem gr_pure {w0 w : World} {F : Nat → Value → World → Prop} {st : Nat → Option Value} {i : Nat} {v : Value} (h : Gr w0 F st w) (hv : F i v w) : Gr w0 F (came st i v) w := by
  refine ⟨h.1, fun j u hj => ?_⟩
  by_cases e : j = i
  · subst e; rw [came_at] at hj; cases hj; exact hv
  · rw [came_far e] at hj; exact h.2 j u hj
theorem gr_more {w0 w w' : World} {F : Nat → Value → World → Prop} {st : Nat → Option Value} {i : Nat} {v : Value} (hF : ∀ j u wx wy, Below wx.heap.size wx wy → F j u wx → F j u wy) (h : Gr w0 F st w) (hb : Below w.heap.size w w') (hv : F i v w') : Gr w0 F (came st i v) w' := by
  refine ⟨h.1.trans (hb.mono h.1.size), fun j u hj => ?_⟩
  by_cases e : j = i
  · subst e; rw [came_at] at hj; cases hj; exact hv
  · rw [came_far e] at hj; exact hF _ _ _ _ hb (h.2 j u hj)
end Go.Proofs.YtekahmlppaabjaaGreatDoor

/-
  Layer 12: a number's digits, as the document says them.
-/
namespace Go.Proofs.YtekahmlppaabjaaGreatDoor
open Go.RowKit
theorem Vl.itoa_step (n : Int) (h : ¬ (-9 ≤ n ∧ n ≤ 9)) : Lib.itoa n = Lib.itoa (n.tdiv 10) ++ [UInt8.ofNat (48 + (n.natAbs % 10))] ∧ (n.tdiv 10).natAbs < n.natAbs := by
  have key : ∀ u : Nat, 10 ≤ u → Lib.decDigits u = Lib.decDigits (u / 10) ++ [UInt8.ofNat (48 + u % 10)] := fun u hu => by
    rw [Lib.decDigits, dif_neg (by omega)]
  have hd : (n.tdiv 10).natAbs = n.natAbs / 10 := by rw [Int.natAbs_tdiv]; rfl
  refine ⟨?_, by omega⟩
  unfold Lib.itoa
  by_cases h0 : n < 0
  · have h1 : n.tdiv 10 < 0 := by
      have : n.tdiv 10 = -((-n).tdiv 10) := by rw [Int.neg_tdiv, Int.neg_neg]
      rw [this, Int.tdiv_eq_ediv_of_nonneg (by omega)]; omega
    rw [if_pos h0, if_pos h1, hd, key _ (by omega)]; rfl
  · have h1 : ¬ n.tdiv 10 < 0 := by rw [Int.tdiv_eq_ediv_of_nonneg (by omega)]; omega
    have e1 : (n.tdiv 10).toNat = n.toNat / 10 := by rw [Int.tdiv_eq_ediv_of_nonneg (by omega)]; omega
    have e2 : n.natAbs = n.toNat := by omega
    rw [if_neg h0, if_neg h1, e1, e2, key _ (by omega)]
theorem Vl.itoa_neg1 (n : Int) (h : -9 ≤ n ∧ n < 0) : Lib.itoa n = [45, UInt8.ofNat (48 - n).toNat] := by
  unfold Lib.itoa
  rw [if_pos h.2, Lib.decDigits, dif_pos (by omega), show 48 + n.natAbs = (48 - n).toNat by omega]
theorem Vl.itoa_pos1 (n : Int) (h : 0 ≤ n ∧ n ≤ 9) : Lib.itoa n = [UInt8.ofNat (48 + n).toNat] := by
  unfold Lib.itoa
  rw [if_neg (by omega), Lib.decDigits, dif_pos (by omega), show 48 + n.toNat = (48 + n).toNat by omega]
/-- one byte, as a string -/
theorem one_conv (c : Int) (W : World) (g : Nat) (h : W.cell? ⟨g, 0, none⟩ = some (.int .u8 c)) :
    (convert 101 9 (.slice (some ⟨g, 0, none⟩) 1 1)).run Tryz.prog W = .ok (.string ⟨#[UInt8.ofNat c.toNat]⟩) W := by
  have hc := run_convert_bytes_arg (P := Tryz.prog) W 101 5 Tryz.underlying101 Tryz.underlying5 g 0 1 1 [c] rfl (fun i hi => by
    obtain rfl : i = 0 := by omega
    exact h) 9 Tryz.underlying9
  rw [hc]; rfl
/-- the values of the last region -/
def digF (n : Int) (A B : ByteArray) (d : Nat) : Nat → Value → World → Prop
  | 0, v, _ => v = .int .i64 n
  | 1, v, _ => v = .int .i64 (n.tdiv 10)
  | 2, v, _ => v = .string A
  | 3, v, _ => v = .int .i64 (d : Int)
  | 4, v, _ => v = .int .i64 (48 + (d : Int))
  | 5, v, _ => v = .int .u8 (48 + (d : Int))
  | 6, v, w => ∃ g, v = .slice (some ⟨g, 0, none⟩) 1 1 ∧ w.cell? ⟨g, 0, none⟩ = some (.int .u8 (48 + (d : Int)))
  | 7, v, _ => v = .string B
  | 8, v, _ => v = .string (A ++ B)
  | 9, v, _ => v = .string (A ++ B)
  | _, _, _ => True
theorem digF_up (n : Int) (A B : ByteArray) (d : Nat) : ∀ j u wx wy, Below wx.heap.size wx wy → digF n A B d j u wx → digF n A B d j u wy := by
  intro j u wx wy hb h
  match j, h with
  | 6, ⟨g, h1, h2⟩ => exact ⟨g, h1, (hb.cell (World.block_lt_of_cell? _ _ h2)).trans h2⟩
  | 0, h | 1, h | 2, h | 3, h | 4, h | 5, h | 7, h | 8, h | 9, h => exact h
  | _ + 10, _ => trivial
end Go.Proofs.YtekahmlppaabjaaGreatDoor

/-
  strings.Compare, cmp.Compare of integers, strconv.FormatBool: what they answer.
-/
namespace Go.Proofs.YtekahmlppaabjaaGreatDoor
open Go.RowKit
set_option maxRecDepth 100000 in
theorem formatBool_any (b : Bool) (w : World) : Calls Tryz.prog 54 #[.bool b] w fun e w' => e = .returned (.string (if b then ⟨#[116, 114, 117, 101]⟩ else ⟨#[102, 97, 108, 115, 101]⟩)) ∧ w' = w := by
  have c1 : ∀ w, Calls Tryz.prog 77 #[.bool b] w fun e w' => e = .returned (.string (if b then ⟨#[116, 114, 117, 101]⟩ else ⟨#[102, 97, 108, 115, 101]⟩)) ∧ w' = w := by
    intro w
    cases b
    · go_enter Tryz.func77, Tryz.ntmps77
      go_wp2_with fail
      go_ret
      exact ⟨rfl, rfl⟩
    · go_enter Tryz.func77, Tryz.ntmps77
      go_wp2_with fail
      go_ret
      exact ⟨rfl, rfl⟩
  generalize (if b = true then (⟨#[116, 114, 117, 101]⟩ : ByteArray) else ⟨#[102, 97, 108, 115, 101]⟩) = A at *
  have HC := Lib.hid c1; clear c1
  go_enter Tryz.func54, Tryz.ntmps54
  go_wp2_with (go_at_call 77; refine (HC.out _).mono ?_; rintro e w1 ⟨rfl, rfl⟩)
  go_ret
  exact ⟨rfl, rfl⟩
end Go.Proofs.YtekahmlppaabjaaGreatDoor

/-
  strconv.Itoa: the library's contract at this program's own numbers (every int; it reads the table of powers of ten).
-/
namespace Go.Proofs
open Go.Shelf
def Tryz.ita_ren : Go.Shelf.Ren := ⟨fun | 129 => 101 | 171 => 52 | 243 => 75 | 246 => 84 | 283 => 92 | 284 => 93 | 285 => 94 | 286 => 95 | 317 => 100 | 318 => 102 | 319 => 103 | 320 => 104 | 337 => 107 | 338 => 108 | n => n, fun | 0 => 0 | 2 => 2 | 3 => 3 | 4 => 4 | 5 => 5 | 9 => 9 | 20 => 20 | 37 => 101 | 46 => 140 | 51 => 137 | 53 => 132 | 171 => 131 | 173 => 135 | 212 => 146 | 213 => 147 | 232 => 155 | 233 => 156 | n => n, fun | 17 => 3 | 18 => 4 | 19 => 5 | n => n⟩
theorem Tryz.ita171 : Go.Proofs.LaysM.n171 Tryz.prog Tryz.ita_ren := {
  mixed := by kernel_rfl
  f129 := Tryz.func101.trans (congrArg some (by kernel_rfl))
  f171 := Tryz.func52.trans (congrArg some (by kernel_rfl))
  f243 := Tryz.func75.trans (congrArg some (by kernel_rfl))
  f246 := Tryz.func84.trans (congrArg some (by kernel_rfl))
  f283 := Tryz.func92.trans (congrArg some (by kernel_rfl))
  f284 := Tryz.func93.trans (congrArg some (by kernel_rfl))
  f285 := Tryz.func94.trans (congrArg some (by kernel_rfl))
  f286 := Tryz.func95.trans (congrArg some (by kernel_rfl))
  f317 := Tryz.func100.trans (congrArg some (by kernel_rfl))
  f318 := Tryz.func102.trans (congrArg some (by kernel_rfl))
  f319 := Tryz.func103.trans (congrArg some (by kernel_rfl))
  f320 := Tryz.func104.trans (congrArg some (by kernel_rfl))
  f337 := Tryz.func107.trans (congrArg some (by kernel_rfl))
  f338 := Tryz.func108.trans (congrArg some (by kernel_rfl))
  t0 := Tryz.underlying0
  a0 := Tryz.isAgg0
  z0 := Tryz.sizeOf0
  v0 := Tryz.zeroValue0
  t2 := Tryz.underlying2
  a2 := Tryz.isAgg2
  z2 := Tryz.sizeOf2
  v2 := Tryz.zeroValue2
  t3 := Tryz.underlying3
  a3 := Tryz.isAgg3
  z3 := Tryz.sizeOf3
  v3 := Tryz.zeroValue3
  t4 := Tryz.underlying4
  a4 := Tryz.isAgg4
  z4 := Tryz.sizeOf4
  v4 := Tryz.zeroValue4
  t5 := Tryz.underlying5
  a5 := Tryz.isAgg5
  z5 := Tryz.sizeOf5
  v5 := Tryz.zeroValue5
  t9 := Tryz.underlying9
  a9 := Tryz.isAgg9
  z9 := Tryz.sizeOf9
  v9 := Tryz.zeroValue9
  t20 := Tryz.underlying20
  a20 := Tryz.isAgg20
  z20 := Tryz.sizeOf20
  v20 := Tryz.zeroValue20
  t37 := Tryz.underlying101
  a37 := Tryz.isAgg101
  z37 := Tryz.sizeOf101
  v37 := Tryz.zeroValue101
  t46 := Tryz.underlying140
  a46 := Tryz.isAgg140
  z46 := Tryz.sizeOf140
  v46 := Tryz.zeroValue140
  t51 := Tryz.underlying137
  a51 := Tryz.isAgg137
  z51 := Tryz.sizeOf137
  v51 := Tryz.zeroValue137
  t53 := Tryz.underlying132
  a53 := Tryz.isAgg132
  z53 := Tryz.sizeOf132
  v53 := Tryz.zeroValue132
  t171 := Tryz.underlying131
  a171 := Tryz.isAgg131
  z171 := Tryz.sizeOf131
  v171 := Tryz.zeroValue131
  t173 := Tryz.underlying135
  a173 := Tryz.isAgg135
  z173 := Tryz.sizeOf135
  v173 := Tryz.zeroValue135
  t212 := Tryz.underlying146
  a212 := Tryz.isAgg146
  z212 := Tryz.sizeOf146
  v212 := Tryz.zeroValue146
  t213 := Tryz.underlying147
  a213 := Tryz.isAgg147
  z213 := Tryz.sizeOf147
  t232 := Tryz.underlying155
  a232 := Tryz.isAgg155
  z232 := Tryz.sizeOf155
  v232 := Tryz.zeroValue155
  t233 := Tryz.underlying156
  a233 := Tryz.isAgg156
  z233 := Tryz.sizeOf156
  v233 := Tryz.zeroValue156
  g17 := by kernel_rfl
  g18 := by kernel_rfl
  g19 := by kernel_rfl
  i0 := by kernel_rfl
  i2 := by kernel_rfl
  i3 := by kernel_rfl
  i4 := by kernel_rfl
  i5 := by kernel_rfl
  i9 := by kernel_rfl
  i20 := by kernel_rfl
  i37 := by kernel_rfl
  i46 := by kernel_rfl
  i51 := by kernel_rfl
  i53 := by kernel_rfl
  i171 := by kernel_rfl
  i173 := by kernel_rfl
  i212 := by kernel_rfl
  i232 := by kernel_rfl
  i233 := by kernel_rfl
  m17 := by kernel_rfl
  m18 := by kernel_rfl
  m19 := by kernel_rfl }
namespace YtekahmlppaabjaaGreatDoor
open Go.RowKit
/-- the table of powers of ten reads as its initialiser lays it -/
abbrev Pow10 (w : World) : Prop := Lib.TabIs Tryz.prog w "internal/strconv.uint64pow10" .u64 Lib.pow10Tab
/-- it lies below -/
theorem pow10_below {w w' : World} (h : Pow10 w) (hb : Below w.heap.size w w') : Pow10 w' := by
  unfold Pow10 Lib.TabIs World.var? at *
  cases hg : Tryz.prog.globalNamed "internal/strconv.uint64pow10" with
  | none => simp [hg] at h
  | some g =>
    simp only [hg, Option.bind_some] at h ⊢
    have hlt : g < w.heap.size := by
      rcases Nat.lt_or_ge g w.heap.size with h' | h'
      · exact h'
      · rw [Array.getElem?_eq_none h'] at h; simp at h
    rw [hb.block g hlt]
    exact h
theorem itoa_any (n : Int) (h0 : -9223372036854775808 ≤ n) (h1 : n ≤ 9223372036854775807) (w : World) (htab : Pow10 w) :
    Calls Tryz.prog 52 #[.int .i64 n] w fun e w' => e = .returned (.string ⟨(Lib.itoa n).toArray⟩) ∧ Below w.heap.size w w' :=
  (Any.strconv_Itoa Tryz.ita171 n h0 h1 w htab).mono fun _ _ ⟨h, k, os, h2⟩ => ⟨h, by
    subst h2
    refine ⟨rfl, rfl, rfl, by rw [Sort.size_grow]; exact Nat.le_add_right _ _, fun j hj => ?_⟩
    exact Sort.heap_grow_old (w.drewN k) os hj⟩
end YtekahmlppaabjaaGreatDoor
end Go.Proofs

/-
  Layer 12: a value's text, the program's and the document's.
-/
namespace Go.Proofs.YtekahmlppaabjaaGreatDoor
open Go.RowKit
/-- a value's box, behind whatever was made since -/
theorem box12_at (v : Vl.V) {w w1 : World} (hb : Below (w.alloc (.cells (valC v) 26)).heap.size (w.alloc (.cells (valC v) 26)) w1) :
    w1.cell? ⟨w.heap.size, 0, none⟩ = some (.int .i64 v.kind) ∧ w1.cell? ⟨w.heap.size, 1, none⟩ = some (.int .i64 v.n) ∧ w1.cell? ⟨w.heap.size, 2, none⟩ = some (.string v.s) ∧ Below w.heap.size w w1 := by
  have hlt : w.heap.size < (w.alloc (.cells (valC v) 26)).heap.size := by rw [World.size_alloc]; omega
  have hc := fun (j : Nat) => hb.cell (p := ⟨w.heap.size, j, none⟩) hlt
  refine ⟨(hc 0).trans ?_, (hc 1).trans ?_, (hc 2).trans ?_, below_box _ hb⟩
  · rw [World.cell?_alloc_at _ _ _ _ rfl]; rfl
  · rw [World.cell?_alloc_at _ _ _ _ rfl]; rfl
  · rw [World.cell?_alloc_at _ _ _ _ rfl]; rfl
/-- what Text tells -/
def textB (v : Vl.V) : ByteArray := if Vl.right v then Vl.text v else Vl.mt
theorem text_bad {v : Vl.V} (h : ¬ Vl.right v) : textB v = Vl.mt := if_neg h
theorem text_ok {v : Vl.V} (h : Vl.right v) : textB v = Vl.text v := if_pos h
theorem boolL_eq (n : Int) (h : n = 0 ∨ n = 1) : (if (n != 0) = true then (⟨#[116, 114, 117, 101]⟩ : ByteArray) else ⟨#[102, 97, 108, 115, 101]⟩) = ⟨(Vl.boolL n).toArray⟩ := by
  rcases h with rfl | rfl <;> rfl
set_option maxRecDepth 100000 in
set_option maxHeartbeats 3200000 in
theorem text12_any (v : Vl.V) (h0 : -9223372036854775808 ≤ v.n) (h1 : v.n ≤ 9223372036854775807) (w : World) (ht : Pow10 w) :
    Calls Tryz.prog 24 #[valV v] w fun e w' => e = .returned (.tuple #[.string (textB v), .int .i64 (checkE v)]) ∧ Below w.heap.size w w' := by
  have cC := check12_any v
  have HB := Lib.hid fun (w1 : World) (hb : Below (w.alloc (.cells (valC v) 26)).heap.size (w.alloc (.cells (valC v) 26)) w1) => box12_at v hb
  by_cases hr : Vl.right v
  · have hE := checkE_ok hr
    rw [hE] at cC ⊢
    rw [text_ok hr]
    obtain ⟨k, n, s⟩ := v
    have HC := Lib.hid cC
    clear cC hE
    have HT := Lib.hid ht
    rcases hr with ⟨hk, hn, hs⟩ | ⟨hk, hs⟩ | ⟨hk, hn, hs⟩ | ⟨hk, hn, hs⟩
    · simp only at hk hn hs
      subst hk hn hs
      go_enter Tryz.func24, Tryz.ntmps24
      go_wp2_with fail
      refine (HC.out _).mono ?_
      rintro e w1 ⟨rfl, hb1⟩
      obtain ⟨r0, r1, r2, hbb⟩ := HB.out w1 hb1
      have H1 := Lib.hid hbb
      clear hb1 hbb
      go_wp2_with fail
      go_ret2
      exact ⟨rfl, H1.out⟩
    · simp only at hk hs
      subst hk hs
      go_enter Tryz.func24, Tryz.ntmps24
      go_wp2_with fail
      refine (HC.out _).mono ?_
      rintro e w1 ⟨rfl, hb1⟩
      obtain ⟨r0, r1, r2, hbb⟩ := HB.out w1 hb1
      have H1 := Lib.hid hbb
      clear hb1 hbb
      go_wp2_with fail
      refine (itoa_any n h0 h1 w1 (pow10_below HT.out H1.out)).mono ?_
      rintro e w2 ⟨rfl, hb2⟩
      have H2 := Lib.hid (H1.out.trans (hb2.mono H1.out.size))
      clear hb2
      go_wp2_with fail
      go_ret2
      exact ⟨rfl, H2.out⟩
    · simp only at hk hn hs
      subst hk hn
      go_enter Tryz.func24, Tryz.ntmps24
      go_wp2_with fail
      refine (HC.out _).mono ?_
      rintro e w1 ⟨rfl, hb1⟩
      obtain ⟨r0, r1, r2, hbb⟩ := HB.out w1 hb1
      have H1 := Lib.hid hbb
      clear hb1 hbb
      go_wp2_with fail
      refine (quoted_any s hs w1).mono ?_
      rintro e w2 ⟨rfl, hb2⟩
      have H2 := Lib.hid (H1.out.trans (hb2.mono H1.out.size))
      clear hb2
      go_wp2_with fail
      go_ret2
      exact ⟨rfl, H2.out⟩
    · simp only at hk hn hs
      subst hk hs
      have HF := Lib.hid (boolL_eq n hn)
      go_enter Tryz.func24, Tryz.ntmps24
      go_wp2_with fail
      refine (HC.out _).mono ?_
      rintro e w1 ⟨rfl, hb1⟩
      obtain ⟨r0, r1, r2, hbb⟩ := HB.out w1 hb1
      have H1 := Lib.hid hbb
      clear hb1 hbb
      go_wp2_with fail
      refine (formatBool_any _ w1).mono ?_
      rintro e w2 ⟨rfl, hw2⟩
      obtain rfl := hw2.symm
      clear hw2
      rw [HF.out]
      go_wp2_with fail
      go_ret2
      exact ⟨rfl, H1.out⟩
  · have hE := checkE_bad hr
    rw [hE] at cC ⊢
    rw [text_bad hr]
    have HC := Lib.hid cC
    clear cC hE hr ht
    go_enter Tryz.func24, Tryz.ntmps24
    go_wp2_with fail
    refine (HC.out _).mono ?_
    rintro e w1 ⟨rfl, hb1⟩
    obtain ⟨r0, r1, r2, hbb⟩ := HB.out w1 hb1
    have H1 := Lib.hid hbb
    clear hb1 hbb
    go_wp2_with fail
    go_ret2
    exact ⟨rfl, H1.out⟩
end Go.Proofs.YtekahmlppaabjaaGreatDoor

/-
  Layer 14: what an expression is written as, the document's.
-/
namespace Go.Proofs.YtekahmlppaabjaaGreatDoor
open Go.RowKit
open Sx (X)
namespace Sx
@[simp] theorem op_mk (o : Int) (v : Vl.V) (s : ByteArray) (l : List X) : (X.mk o v s l).op = o := rfl
@[simp] theorem v_mk (o : Int) (v : Vl.V) (s : ByteArray) (l : List X) : (X.mk o v s l).v = v := rfl
@[simp] theorem s_mk (o : Int) (v : Vl.V) (s : ByteArray) (l : List X) : (X.mk o v s l).s = s := rfl
@[simp] theorem l_mk (o : Int) (v : Vl.V) (s : ByteArray) (l : List X) : (X.mk o v s l).l = l := rfl
/-- an expression at a level, as a text -/
def wt (x : X) (lev : Nat) : ByteArray := Lx.mk (flat (wr x lev))
theorem mk_cat (a b : List UInt8) : Lx.mk a ++ Lx.mk b = Lx.mk (a ++ b) := by apply Sl.ba_ext; rw [ByteArray.data_append]; simp
theorem tok_len {t : Lx.T} (h : Lx.right t) (hn : t.n ≤ Lx.maxI) : (Lx.textL t).length ≤ 85 := by
  obtain ⟨k, s, n, a⟩ := t
  have hl : s.data.toList.length = s.size := Array.length_toList ..
  rcases h with ⟨rfl, _, _, _, h⟩ | ⟨rfl, h, _⟩ | ⟨rfl, _, h⟩ | ⟨rfl, h, _⟩
  · show s.data.toList.length ≤ 85
    have : s.size ≤ 16 := h
    omega
  · have h0 : 0 ≤ n := h
    have h1 : n ≤ 9223372036854775807 := hn
    have := Lib.itoa_length_le n (by omega) h1
    show (Lib.itoa n).length ≤ 85
    omega
  · show (Vl.quoteL s.data.toList).length ≤ 85
    have h40 : s.size ≤ 40 := h.1
    have := Vl.esc_len s.data.toList
    unfold Vl.quoteL
    simp only [List.length_cons, List.length_append, List.length_nil]
    omega
  · have hm : ∀ m ∈ Lx.marks, m.length ≤ 85 := by decide
    exact hm _ h
theorem flat_len : ∀ (k : Nat) (x : X), size x ≤ k → right x = true → fit x = true → (flat (ps x)).length ≤ 100 * size x ∧ ∀ lev, (flat (wr x lev)).length ≤ 100 * size x + 2 := by
  intro k
  induction k with
  | zero => intro x hk; have := size_pos x; omega
  | succ k ih =>
    intro x hk hr hf
    have own : (flat (ps x)).length ≤ 100 * size x := by
      cases form_of hr with
      | val v h hn =>
        have hm : v.n ≤ 9223372036854775807 := by
          simp only [fit, Bool.and_eq_true, decide_eq_true_eq] at hf; exact hf.1
        obtain ⟨h1, h2, _⟩ := valT_right h hn hm
        have h3 := tok_len h1 h2
        have e : flat (ps (.mk 1 v Vl.mt [])) = Lx.textL (valT v) ++ [] := rfl
        have hs : size (.mk 1 v Vl.mt []) = 1 := rfl
        rw [e, List.append_nil, hs]; omega
      | name s h =>
        have h3 := tok_len (nameT_right h) (show (0 : Int) ≤ _ by decide)
        have e : flat (ps (.mk 2 Vl.no s [])) = Lx.textL ⟨1, s, 0, 0⟩ ++ [] := rfl
        have hs : size (.mk 2 Vl.no s []) = 1 := rfl
        rw [e, List.append_nil, hs]; omega
      | neg a h =>
        have hsz : size (.mk 3 Vl.no Vl.mt [a]) = 1 + (size a + 0) := rfl
        have hfa : fit a = true := by simp only [fit, fitL, Bool.and_eq_true] at hf; exact hf.2.1
        have h1 := (ih a (by omega) h hfa).2 6
        have e : flat (ps (.mk 3 Vl.no Vl.mt [a])) = 45 :: flat (wr a 6) := rfl
        rw [e, List.length_cons]; omega
      | bin op a b h4 h15 ha hb =>
        have hsz : size (bin op a b) = 1 + (size a + (size b + 0)) := rfl
        have hfa : fit a = true ∧ fit b = true := by simp only [fit, fitL, Bool.and_eq_true] at hf; exact ⟨hf.2.1, hf.2.2.1⟩
        obtain ⟨h1, h2, _⟩ := opT_right h4 h15
        have h3 := tok_len h1 h2
        have ha1 := (ih a (by omega) ha hfa.1).2 (left op)
        have hb1 := (ih b (by omega) hb hfa.2).2 (lvl op + 1)
        rw [ps_bin a b h4 h15, flat_app, flat_app]
        have e : flat [.gap, .tok (opT op), .gap] = 32 :: (Lx.textL (opT op) ++ [32]) := by simp [flat, flat1]
        rw [e]
        simp only [List.length_append, List.length_cons, List.length_nil]
        omega
      | cond a b c ha hb hc =>
        have hsz : size (.mk 16 Vl.no Vl.mt [a, b, c]) = 1 + (size a + (size b + (size c + 0))) := rfl
        have hfa : fit a = true ∧ fit b = true ∧ fit c = true := by simp only [fit, fitL, Bool.and_eq_true] at hf; exact ⟨hf.2.1, hf.2.2.1, hf.2.2.2.1⟩
        have ha1 := (ih a (by omega) ha hfa.1).2 0
        have hb1 := (ih b (by omega) hb hfa.2.1).2 0
        have hc1 := (ih c (by omega) hc hfa.2.2).2 0
        rw [ps_cond, flat_app, flat_app, flat_app, flat_app, flat_app]
        have e1 : (flat [.tok (word [105, 102]), .gap]).length = 3 := by decide +kernel
        have e2 : (flat [.gap, .tok (word [116, 104, 101, 110]), .gap]).length = 6 := by decide +kernel
        have e3 : (flat [.gap, .tok (word [101, 108, 115, 101]), .gap]).length = 6 := by decide +kernel
        simp only [List.length_append, e1, e2, e3]
        omega
    refine ⟨own, fun lev => ?_⟩
    by_cases hlt : lvl x.op < lev
    · rw [wr_paren hlt, wr_open (Nat.zero_le _)]
      have e : flat (.tok (mark [40]) :: (ps x ++ [.tok (mark [41])])) = 40 :: flat (ps x ++ [.tok (mark [41])]) := rfl
      rw [e, flat_app, List.length_cons, List.length_append]
      have e2 : (flat [.tok (mark [41])]).length = 1 := by decide +kernel
      omega
    · rw [wr_open (by omega)]; omega
theorem wt_size {x : X} (hr : right x = true) (hf : fit x = true) (lev : Nat) : (wt x lev).size ≤ 100 * size x + 2 := by
  have := (flat_len _ x (Nat.le_refl _) hr hf).2 lev
  show (flat (wr x lev)).toArray.size ≤ _
  rw [List.size_toArray]; exact this
theorem wt_own {x : X} {lev : Nat} (h : lev ≤ lvl x.op) : wt x lev = Lx.mk (flat (ps x)) := by unfold wt; rw [wr_open h]
theorem wt_paren {x : X} {lev : Nat} (h : lvl x.op < lev) : wt x lev = ⟨#[40]⟩ ++ wt x 0 ++ ⟨#[41]⟩ := by
  have e1 : (⟨#[40]⟩ : ByteArray) = Lx.mk [40] := rfl
  have e2 : (⟨#[41]⟩ : ByteArray) = Lx.mk [41] := rfl
  unfold wt
  rw [e1, e2, mk_cat, mk_cat, wr_paren h]
  congr 1
  show 40 :: flat (wr x 0 ++ [.tok (mark [41])]) = _
  rw [flat_app]; rfl
theorem wt_neg (y : X) : Lx.mk (flat (ps (.mk 3 Vl.no Vl.mt [y]))) = ⟨#[45]⟩ ++ wt y 6 := by
  have e1 : (⟨#[45]⟩ : ByteArray) = Lx.mk [45] := rfl
  rw [e1]; unfold wt; rw [mk_cat]; rfl
theorem wt_bin {op : Int} (y1 y2 : X) (h4 : 4 ≤ op) (h15 : op ≤ 15) : Lx.mk (flat (ps (bin op y1 y2))) = wt y1 (left op) ++ ⟨#[32]⟩ ++ Lx.mk (sign op) ++ ⟨#[32]⟩ ++ wt y2 (lvl op + 1) := by
  have e1 : (⟨#[32]⟩ : ByteArray) = Lx.mk [32] := rfl
  have e : flat [.gap, .tok (opT op), .gap] = [32] ++ (sign op ++ [32]) := by
    have : Lx.textL (opT op) = sign op := by
      unfold opT Lx.textL
      split <;> rfl
    simp [flat, flat1, this]
  rw [ps_bin y1 y2 h4 h15, flat_app, flat_app, e, e1]
  unfold wt
  rw [mk_cat, mk_cat, mk_cat, mk_cat]
  simp [List.append_assoc]
theorem wt_cond (y1 y2 y3 : X) : Lx.mk (flat (ps (.mk 16 Vl.no Vl.mt [y1, y2, y3]))) = ⟨#[105, 102, 32]⟩ ++ wt y1 0 ++ ⟨#[32, 116, 104, 101, 110, 32]⟩ ++ wt y2 0 ++ ⟨#[32, 101, 108, 115, 101, 32]⟩ ++ wt y3 0 := by
  have e1 : (⟨#[105, 102, 32]⟩ : ByteArray) = Lx.mk [105, 102, 32] := rfl
  have e2 : (⟨#[32, 116, 104, 101, 110, 32]⟩ : ByteArray) = Lx.mk [32, 116, 104, 101, 110, 32] := rfl
  have e3 : (⟨#[32, 101, 108, 115, 101, 32]⟩ : ByteArray) = Lx.mk [32, 101, 108, 115, 101, 32] := rfl
  rw [ps_cond, flat_app, flat_app, flat_app, flat_app, flat_app, e1, e2, e3]
  unfold wt
  rw [mk_cat, mk_cat, mk_cat, mk_cat, mk_cat]
  have f1 : flat [.tok (word [105, 102]), .gap] = [105, 102, 32] := by decide +kernel
  have f2 : flat [.gap, .tok (word [116, 104, 101, 110]), .gap] = [32, 116, 104, 101, 110, 32] := by decide +kernel
  have f3 : flat [.gap, .tok (word [101, 108, 115, 101]), .gap] = [32, 101, 108, 115, 101, 32] := by decide +kernel
  rw [f1, f2, f3]
  simp [List.append_assoc]
theorem valT_text {v : Vl.V} (h : Vl.right v) : Lx.mk (Lx.textL (valT v)) = Vl.text v := by
  obtain ⟨k, m, s⟩ := v
  rcases h with ⟨h1, h2, h3⟩ | ⟨h1, h3⟩ | ⟨h1, h2, h3⟩ | ⟨h1, h2, h3⟩
  · simp only at h1 h2 h3; subst h1 h2 h3; kernel_rfl
  · simp only at h1 h3; subst h1 h3; rfl
  · simp only at h1 h2; subst h1 h2; rfl
  · simp only at h1 h2 h3; subst h1 h3
    rcases h2 with rfl | rfl
    · kernel_rfl
    · kernel_rfl
theorem wt_val {v : Vl.V} (h : Vl.right v) : Lx.mk (flat (ps (.mk 1 v Vl.mt []))) = Vl.text v := by
  have e : flat (ps (.mk 1 v Vl.mt [])) = Lx.textL (valT v) ++ [] := rfl
  rw [e, List.append_nil, valT_text h]
theorem wt_name (s : ByteArray) : Lx.mk (flat (ps (.mk 2 Vl.no s []))) = s := by
  have e : flat (ps (.mk 2 Vl.no s [])) = s.data.toList ++ [] := rfl
  rw [e, List.append_nil]
end Sx
theorem cell_keep {w w' : World} {p : Addr} {v : Value} (hb : Below w.heap.size w w') (hc : w.cell? p = some v) : w'.cell? p = some v := (hb.cell (World.block_lt_of_cell? _ _ hc)).trans hc
theorem xat_l1 {w : World} {S : Nat → Prop} {op : Int} {v : Vl.V} {s : ByteArray} {y : X} {a : Option Addr} (h : XAt w S (.mk op v s [y]) a) : ∃ b o a1 q1, a = some ⟨b, o, none⟩ ∧ Cells6 w b o y a1 q1 ∧ XAt w S y a1 := by
  obtain ⟨b, o, a1, q1, h1, h2, h3⟩ := xat_at h 0 (by show 0 < 1; omega)
  exact ⟨b, o, a1, q1, h1, by rw [Nat.zero_mul, Nat.add_zero] at h2; exact h2, h3⟩
theorem cells6_keep {w w' : World} {b o : Nat} {x : X} {a : Option Addr} {c : Nat} (h : Cells6 w b o x a c) (hb : Below w.heap.size w w') : Cells6 w' b o x a c :=
  cells6_only h (Only.of_none (F := fun _ => False) hb) fun h => h
theorem xat_l2 {w : World} {S : Nat → Prop} {op : Int} {v : Vl.V} {s : ByteArray} {y1 y2 : X} {a : Option Addr} (h : XAt w S (.mk op v s [y1, y2]) a) : ∃ b o a1 q1 a2 q2, a = some ⟨b, o, none⟩ ∧ Cells6 w b o y1 a1 q1 ∧ Cells6 w b (o + 6) y2 a2 q2 ∧ XAt w S y1 a1 ∧ XAt w S y2 a2 := by
  rw [XAt] at h
  rcases h with h | ⟨b, o, h1, _, h3⟩
  · cases h
  · rw [LAt, LAt] at h3
    obtain ⟨⟨a1, q1, h4, h5⟩, ⟨a2, q2, h6, h7⟩, _⟩ := h3
    exact ⟨b, o, a1, q1, a2, q2, h1, h4, h6, h5, h7⟩
theorem xat_l3 {w : World} {S : Nat → Prop} {op : Int} {v : Vl.V} {s : ByteArray} {y1 y2 y3 : X} {a : Option Addr} (h : XAt w S (.mk op v s [y1, y2, y3]) a) : ∃ b o a1 q1 a2 q2 a3 q3, a = some ⟨b, o, none⟩ ∧ Cells6 w b o y1 a1 q1 ∧ Cells6 w b (o + 6) y2 a2 q2 ∧ Cells6 w b (o + 12) y3 a3 q3 ∧ XAt w S y1 a1 ∧ XAt w S y2 a2 ∧ XAt w S y3 a3 := by
  rw [XAt] at h
  rcases h with h | ⟨b, o, h1, _, h3⟩
  · cases h
  · rw [LAt, LAt, LAt] at h3
    obtain ⟨⟨a1, q1, h4, h5⟩, ⟨a2, q2, h6, h7⟩, ⟨a3, q3, h8, h9⟩, _⟩ := h3
    exact ⟨b, o, a1, q1, a2, q2, a3, q3, h1, h4, h6, h8, h5, h7, h9⟩
end Go.Proofs.YtekahmlppaabjaaGreatDoor

/-
  Layer 14: an expression's text, the document's.
-/
namespace Go.Proofs.YtekahmlppaabjaaGreatDoor
open Go.RowKit
open Sx (X)
namespace Sx
theorem size_deep : ∀ (n : Nat) (x : X), deep x ≤ n → right x = true → 2 * size x + 1 ≤ 3 ^ n := by
  intro n
  induction n with
  | zero => intro x hd; have := deep_pos x; omega
  | succ n ih =>
    intro x hd hr
    have h3 : 3 ^ (n + 1) = 3 * 3 ^ n := by rw [Nat.pow_succ]; omega
    have hp : 1 ≤ 3 ^ n := Nat.one_le_pow n 3 (by omega)
    cases form_of hr with
    | val v h hn =>
      have hs : size (.mk 1 v Vl.mt []) = 1 := rfl
      rw [hs]; omega
    | name s h =>
      have hs : size (.mk 2 Vl.no s []) = 1 := rfl
      rw [hs]; omega
    | neg a h =>
      have hs : size (.mk 3 Vl.no Vl.mt [a]) = 1 + (size a + 0) := rfl
      have hdy : deep (.mk 3 Vl.no Vl.mt [a]) = max (deep a) 0 + 1 := rfl
      have := ih a (by omega) h
      omega
    | bin op a b h4 h15 ha hb =>
      have hs : size (bin op a b) = 1 + (size a + (size b + 0)) := rfl
      have hdy : deep (bin op a b) = max (deep a) (max (deep b) 0) + 1 := rfl
      have h1 := ih a (by omega) ha
      have h2 := ih b (by omega) hb
      omega
    | cond a b c ha hb hc =>
      have hs : size (.mk 16 Vl.no Vl.mt [a, b, c]) = 1 + (size a + (size b + (size c + 0))) := rfl
      have hdy : deep (.mk 16 Vl.no Vl.mt [a, b, c]) = max (deep a) (max (deep b) (max (deep c) 0)) + 1 := rfl
      have h1 := ih a (by omega) ha
      have h2 := ih b (by omega) hb
      have h3 := ih c (by omega) hc
      omega
theorem size_12 {x : X} (hd : deep x ≤ 12) (hr : right x = true) : size x ≤ 265720 := by
  have := size_deep 12 x hd hr
  have h : (3 : Nat) ^ 12 = 531441 := by decide
  omega
mutual
theorem fit_ok : ∀ x : X, okX x → fit x = true
  | .mk o v s l, h => by
    rw [okX] at h
    rw [fit, decide_eq_true h.1.2, fitL_ok l h.2.2.2.2]; rfl
theorem fitL_ok : ∀ l : List X, okL l → fitL l = true
  | [], _ => by rw [fitL]
  | x :: r, h => by
    rw [okL] at h
    rw [fitL, fit_ok x h.1, fitL_ok r h.2]; rfl
end
end Sx
end Go.Proofs.YtekahmlppaabjaaGreatDoor

/-
  Layer 14: the document's reader of tokens: what stands here, what must stand here.
-/
namespace Go.Proofs.YtekahmlppaabjaaGreatDoor
open Go.RowKit
open Sx (X toksOf isT)
/-- the reader at block R: tokens, where it stands, whether something did not go on -/
def Rdr (w : World) (R : Nat) (al : Option Addr) (cap : Nat) (L : List Lx.T) (p : Nat) (bad : Bool) : Prop :=
  RowV w R 64 [.slice al L.length cap, .int .i64 (p : Int), .bool bad] ∧ ReadsT13 w al L ∧ (L = [] ∨ ∀ b, al = some b → b.block < R)
theorem rdr_only {F : Nat → Prop} {w w' : World} {R : Nat} {al : Option Addr} {cap : Nat} {L : List Lx.T} {p : Nat} {bad : Bool} (h : Rdr w R al cap L p bad) (ho : Only F w w') (hR : ¬ F R) (hF : ∀ k, k < R → ¬ F k) : Rdr w' R al cap L p bad := by
  refine ⟨rowV_only h.1 ho hR, ?_, h.2.2⟩
  rcases h.2.2 with e | e
  · subst e; exact readsT13_none _ _
  · exact readsT13_only h.2.1 ho fun b hb => hF _ (e b hb)
theorem rdr_below {w w' : World} {R : Nat} {al : Option Addr} {cap : Nat} {L : List Lx.T} {p : Nat} {bad : Bool} (h : Rdr w R al cap L p bad) (hb : Below w.heap.size w w') : Rdr w' R al cap L p bad :=
  rdr_only h (Only.of_none (F := fun _ => False) hb) (fun h => h) fun _ _ h => h
theorem rdr_reads {w w' : World} {R : Nat} {al : Option Addr} {cap : Nat} {L : List Lx.T} {p : Nat} {bad : Bool} (h : Rdr w R al cap L p bad) (ho : Only (fun k => k = R) w w') : ReadsT13 w' al L := by
  rcases h.2.2 with e | e
  · subst e; exact readsT13_none _ _
  · exact readsT13_only h.2.1 ho fun b hb => by have := e b hb; omega
theorem rdr_cells {w : World} {R : Nat} {al : Option Addr} {cap : Nat} {L : List Lx.T} {p : Nat} {bad : Bool} (h : Rdr w R al cap L p bad) : w.cell? ⟨R, 0, none⟩ = some (.slice al L.length cap) ∧ w.cell? ⟨R, 1, none⟩ = some (.int .i64 (p : Int)) ∧ w.cell? ⟨R, 2, none⟩ = some (.bool bad) ∧ w.frozen? ⟨R, 1, none⟩ = false ∧ w.frozen? ⟨R, 2, none⟩ = false :=
  ⟨rowV_cell h.1 0, rowV_cell h.1 1, rowV_cell h.1 2, rowV_frozen h.1 1, rowV_frozen h.1 2⟩
/-- it goes on to a place -/
theorem rdr_at {w : World} {R : Nat} {al : Option Addr} {cap : Nat} {L : List Lx.T} {p : Nat} {bad : Bool} (h : Rdr w R al cap L p bad) (q : Nat) : Rdr (w.setCell ⟨R, 1, none⟩ (.int .i64 (q : Int))) R al cap L q bad ∧ Only (fun k => k = R) w (w.setCell ⟨R, 1, none⟩ (.int .i64 (q : Int))) := by
  have ho : Only (fun k => k = R) w (w.setCell ⟨R, 1, none⟩ (.int .i64 (q : Int))) := Only.setCell (F := fun k => k = R) (Only.refl _ _) (fun _ => rfl) _
  exact ⟨⟨rowV_stored h.1 1 (.int .i64 (q : Int)), rdr_reads h ho, h.2.2⟩, ho⟩
theorem rdr_bad {w : World} {R : Nat} {al : Option Addr} {cap : Nat} {L : List Lx.T} {p : Nat} {bad : Bool} (h : Rdr w R al cap L p bad) (bb : Bool) : Rdr (w.setCell ⟨R, 2, none⟩ (.bool bb)) R al cap L p bb ∧ Only (fun k => k = R) w (w.setCell ⟨R, 2, none⟩ (.bool bb)) := by
  have ho : Only (fun k => k = R) w (w.setCell ⟨R, 2, none⟩ (.bool bb)) := Only.setCell (F := fun k => k = R) (Only.refl _ _) (fun _ => rfl) _
  exact ⟨⟨rowV_stored h.1 2 (.bool bb), rdr_reads h ho, h.2.2⟩, ho⟩
theorem toksOf_at {L : List Lx.T} {p : Nat} (h : p < L.length) : toksOf L p = some (Lx.strip L[p]) := by unfold toksOf; rw [List.getElem?_eq_getElem h]; rfl
theorem toksOf_no {L : List Lx.T} {p : Nat} (h : L.length ≤ p) : toksOf L p = none := by unfold toksOf; rw [List.getElem?_eq_none h]; rfl
theorem isT_at {L : List Lx.T} {p : Nat} (h : p < L.length) (kind : Int) (s : List UInt8) : isT (toksOf L p) kind s = (decide (L[p].kind = kind) && decide (L[p].s = Lx.mk s)) := by rw [toksOf_at h]; rfl
set_option maxRecDepth 100000 in
set_option maxHeartbeats 6400000 in
theorem ris14_any {w : World} {R : Nat} {al : Option Addr} {cap : Nat} {L : List Lx.T} {p : Nat} {bad : Bool} (h : Rdr w R al cap L p bad) (kind : Int) (s : List UInt8) : Calls Tryz.prog 46 #[.pointer (some ⟨R, 0, none⟩), .int .i64 kind, .string (Lx.mk s)] w fun e w' => e = .returned (.bool (isT (toksOf L p) kind s)) ∧ Below w.heap.size w w' := by
  obtain ⟨c0, c1, c2, -, -⟩ := rdr_cells h
  by_cases hp : p < L.length
  · rw [isT_at hp]
    obtain ⟨b, off, rfl, d0, d1, d2, d3⟩ := h.2.1 p hp
    have t0 : decide ((p : Int) < (L.length : Int)) = true := decide_eq_true (by omega)
    generalize L[p] = T at *
    obtain ⟨tk, ts, tn, ta⟩ := T
    simp only at d0 d1 d2 d3 ⊢
    clear d2 d3 h c2
    by_cases hk : tk = kind
    · subst hk
      have tk0 : (tk == tk) = true := by simp
      rw [decide_eq_true rfl, Bool.true_and]
      by_cases hs : ts = Lx.mk s
      · rw [decide_eq_true hs]
        subst hs
        generalize Lx.mk s = sb at *
        go_enter Tryz.func46, Tryz.ntmps46
        go_wp2_with fail
        go_quiet (fail)
        go_wp2_with fail
        go_ret
        exact ⟨rfl, below_drewN (Below.refl _ _) _⟩
      · rw [decide_eq_false hs]
        have hs1 : ¬ ts.toList = (Lx.mk s).toList := fun e => hs (Sl.ba_ext (by rw [← ByteArray.toList_eq, ← ByteArray.toList_eq]; exact e))
        have hs2 : (ts.toList == (Lx.mk s).toList) = false := by simpa using hs1
        generalize Lx.mk s = sb at *
        go_enter Tryz.func46, Tryz.ntmps46
        go_wp2_with fail
        go_quiet (fail)
        go_wp2_with fail
        go_ret
        exact ⟨rfl, below_drewN (Below.refl _ _) _⟩
    · rw [decide_eq_false hk, Bool.false_and]
      have tk0 : (tk == kind) = false := by simpa using hk
      go_enter Tryz.func46, Tryz.ntmps46
      go_wp2_with fail
      go_quiet (fail)
      go_wp2_with fail
      go_ret
      exact ⟨rfl, below_drewN (Below.refl _ _) _⟩
  · have e : isT (toksOf L p) kind s = false := by rw [toksOf_no (by omega)]; rfl
    rw [e]
    have t0 : decide ((p : Int) < (L.length : Int)) = false := decide_eq_false (by omega)
    clear h c2 e
    go_enter Tryz.func46, Tryz.ntmps46
    go_wp2_with fail
    go_quiet (fail)
    go_wp2_with fail
    go_ret
    exact ⟨rfl, below_drewN (Below.refl _ _) _⟩
set_option maxRecDepth 100000 in
set_option maxHeartbeats 6400000 in
/-- a word or a mark that must stand here -/
theorem rtake14_any {w : World} {R : Nat} {al : Option Addr} {cap : Nat} {L : List Lx.T} {p : Nat} {bad : Bool} (h : Rdr w R al cap L p bad) (hp : p ≤ 1000000000) (kind : Int) (s : List UInt8) : Calls Tryz.prog 47 #[.pointer (some ⟨R, 0, none⟩), .int .i64 kind, .string (Lx.mk s)] w fun e w' => e = .returned (.tuple #[]) ∧ Rdr w' R al cap L (if bad then p else if isT (toksOf L p) kind s then p + 1 else p) (bad || !(isT (toksOf L p) kind s)) ∧ Only (fun k => k = R) w w' := by
  obtain ⟨c0, c1, c2, -, -⟩ := rdr_cells h
  have HC := Lib.hid (ris14_any h kind s)
  have HH := Lib.hid h
  cases bad with
  | true =>
    clear h
    go_enter Tryz.func47, Tryz.ntmps47
    go_wp2_with fail
    exact ⟨rfl, _, results_none rfl _ _ _, rfl, HH.out, Only.refl _ _⟩
  | false =>
    cases hT : isT (toksOf L p) kind s with
    | true =>
      rw [hT] at HC
      clear h hT
      generalize Lx.mk s = sb at *
      go_enter Tryz.func47, Tryz.ntmps47
      go_wp2_with fail
      refine HC.out.mono ?_
      rintro e w1 ⟨rfl, hb1⟩
      have HH1 := Lib.hid (rdr_below HH.out hb1)
      have HB1 := Lib.hid hb1
      obtain ⟨d0, d1, d2, d3, d4⟩ := rdr_cells HH1.out
      have hw : IntKind.i64.wrap ((p : Int) + 1) = (p : Int) + 1 := IntWalk.i64_in _ (by omega)
      clear c0 c1 c2 hb1
      go_wp2_with fail
      have := rdr_at HH1.out (p + 1)
      exact ⟨rfl, _, results_none rfl _ _ _, rfl, this.1, (Only.of_none HB1.out).more this.2⟩
    | false =>
      rw [hT] at HC
      clear h hT
      generalize Lx.mk s = sb at *
      go_enter Tryz.func47, Tryz.ntmps47
      go_wp2_with fail
      refine HC.out.mono ?_
      rintro e w1 ⟨rfl, hb1⟩
      have HH1 := Lib.hid (rdr_below HH.out hb1)
      have HB1 := Lib.hid hb1
      obtain ⟨d0, d1, d2, d3, d4⟩ := rdr_cells HH1.out
      clear c0 c1 c2 hb1
      go_wp2_with fail
      have := rdr_bad HH1.out true
      exact ⟨rfl, _, results_none rfl _ _ _, rfl, this.1, (Only.of_none HB1.out).more this.2⟩
end Go.Proofs.YtekahmlppaabjaaGreatDoor

/-
  Layer 14: the document's reader of tokens: which op of two stands here.
-/
namespace Go.Proofs.YtekahmlppaabjaaGreatDoor
open Go.RowKit
open Sx (X toksOf isT)
namespace Sx
def opFrom (t : Option Lx.T) (lev : Nat) (o : Int) : Option Int := (ops.drop (o - 4).toNat).find? (isOp t lev)
theorem opFrom_at (t : Option Lx.T) (lev : Nat) : opAt t lev = opFrom t lev 4 := rfl
theorem opFrom_end (t : Option Lx.T) (lev : Nat) : opFrom t lev 16 = none := rfl
theorem opFrom_step (t : Option Lx.T) (lev : Nat) {o : Int} (h4 : 4 ≤ o) (h15 : o ≤ 15) : opFrom t lev o = if isOp t lev o then some o else opFrom t lev (o + 1) := by
  have key : ∀ (x : Int) (l : List Int), (x :: l).find? (isOp t lev) = if isOp t lev x then some x else l.find? (isOp t lev) := fun x l => by
    rw [List.find?_cons]; cases isOp t lev x <;> rfl
  rcases op_facts h4 h15 with rfl | rfl | rfl | rfl | rfl | rfl | rfl | rfl | rfl | rfl | rfl | rfl <;> exact key _ _
end Sx
set_option maxRecDepth 100000 in
set_option maxHeartbeats 6400000 in
theorem rop14_any {w : World} {R : Nat} {al : Option Addr} {cap : Nat} {L : List Lx.T} {p : Nat} {bad : Bool} (h : Rdr w R al cap L p bad) (lev : Nat) : Calls Tryz.prog 48 #[.pointer (some ⟨R, 0, none⟩), .int .i64 ((lev : Nat) : Int)] w fun e w' => e = .returned (.int .i64 ((Sx.opAt (toksOf L p) lev).getD 0)) ∧ Below w.heap.size w w' := by
  have HH := Lib.hid h
  clear h
  go_enter Tryz.func48, Tryz.ntmps48
  go_wp2_with fail
  go_loopw [5] (fun i wr => ∃ o : Int, i = .int .i64 o ∧ 4 ≤ o ∧ o ≤ 16 ∧ Hid (Sx.opAt (toksOf L p) lev = Sx.opFrom (toksOf L p) lev o) ∧ Hid (Below w.heap.size w wr)) (fun i _ => (16 - intOf i).toNat)
  case atStart => exact ⟨4, rfl, by omega, by omega, Lib.hid (Sx.opFrom_at _ _), Lib.hid (Below.refl _ _)⟩
  case round =>
    obtain ⟨o, rfl, h4, h16, HF, HB⟩ := hrel
    by_cases hlt : o ≤ 15
    · have HR := Lib.hid (rdr_below HH.out HB.out)
      have HLV := Lib.hid fun wx => rlevel14_any o wx
      have HS := Lib.hid fun wx => rsign14_any o wx
      have hw : IntKind.i64.wrap (o + 1) = o + 1 := IntWalk.i64_in _ (by omega)
      by_cases h14 : o = 14
      · have hkd : Sx.kindOf o = 1 := by unfold Sx.kindOf; rw [if_pos (by omega)]
        have q14 : (o == 14) = true := by simp [h14]
        clear h14
        by_cases hlv : Sx.lvl o = lev
        · have tl : (((Sx.lvl o : Nat) : Int) == ((lev : Nat) : Int)) = true := by rw [hlv]; simp
          have hst := Sx.opFrom_step (toksOf L p) lev h4 hlt
          have hi : Sx.isOp (toksOf L p) lev o = isT (toksOf L p) 1 (Sx.sign o) := by unfold Sx.isOp; rw [decide_eq_true hlv, Bool.true_and, hkd]
          rw [hi] at hst
          have HC := Lib.hid fun (wx : World) (hbx : Below wr.heap.size wr wx) => ris14_any (rdr_below HR.out hbx) 1 (Sx.sign o)
          generalize isT (toksOf L p) 1 (Sx.sign o) = B at *
          generalize Lx.mk (Sx.sign o) = SG at *
          have HST := Lib.hid hst
          generalize ((Sx.lvl o : Nat) : Int) = LO at *
          clear hi hlv hst hkd
          cases B with
          | true =>
            go_wp2_with (first | (go_at_call 71; refine (HLV.out _).mono ?_; rintro e w1 ⟨rfl, rfl⟩) | (go_at_call 72; refine (HS.out _).mono ?_; rintro e w1 ⟨rfl, rfl⟩) | (go_at_call 46; refine (HC.out _ (Below.refl _ _)).mono ?_; rintro e w1 ⟨rfl, hb1⟩; have HB1 := Lib.hid (HB.out.trans (hb1.mono HB.out.size)); clear hb1))
            go_ret
            exact ⟨ret_int (by rw [HF.out, HST.out]; simp), HB1.out⟩
          | false =>
            go_wp2_with (first | (go_at_call 71; refine (HLV.out _).mono ?_; rintro e w1 ⟨rfl, rfl⟩) | (go_at_call 72; refine (HS.out _).mono ?_; rintro e w1 ⟨rfl, rfl⟩) | (go_at_call 46; refine (HC.out _ (Below.refl _ _)).mono ?_; rintro e w1 ⟨rfl, hb1⟩; have HB1 := Lib.hid (HB.out.trans (hb1.mono HB.out.size)); clear hb1))
            go_roundw
            case rel => exact ⟨o + 1, rfl, by omega, by omega, Lib.hid (by rw [HF.out, HST.out]; simp), HB1⟩
            case measure => simp only [intOf]; omega
        · have tl : (((Sx.lvl o : Nat) : Int) == ((lev : Nat) : Int)) = false := by simp; omega
          have hst := Sx.opFrom_step (toksOf L p) lev h4 hlt
          have hi : Sx.isOp (toksOf L p) lev o = false := by unfold Sx.isOp; rw [decide_eq_false hlv, Bool.false_and]
          rw [hi] at hst
          have HST := Lib.hid hst
          generalize ((Sx.lvl o : Nat) : Int) = LO at *
          clear hi hlv hst hkd
          go_wp2_with (first | (go_at_call 71; refine (HLV.out _).mono ?_; rintro e w1 ⟨rfl, rfl⟩))
          go_roundw
          case rel => exact ⟨o + 1, rfl, by omega, by omega, Lib.hid (by rw [HF.out, HST.out]; simp), HB⟩
          case measure => simp only [intOf]; omega
      · by_cases h15 : o = 15
        · have hkd : Sx.kindOf o = 1 := by unfold Sx.kindOf; rw [if_pos (by omega)]
          have q14 : (o == 14) = false := by simp [h14]
          have q15 : (o == 15) = true := by simp [h15]
          clear h14 h15
          by_cases hlv : Sx.lvl o = lev
          · have tl : (((Sx.lvl o : Nat) : Int) == ((lev : Nat) : Int)) = true := by rw [hlv]; simp
            have hst := Sx.opFrom_step (toksOf L p) lev h4 hlt
            have hi : Sx.isOp (toksOf L p) lev o = isT (toksOf L p) 1 (Sx.sign o) := by unfold Sx.isOp; rw [decide_eq_true hlv, Bool.true_and, hkd]
            rw [hi] at hst
            have HC := Lib.hid fun (wx : World) (hbx : Below wr.heap.size wr wx) => ris14_any (rdr_below HR.out hbx) 1 (Sx.sign o)
            generalize isT (toksOf L p) 1 (Sx.sign o) = B at *
            generalize Lx.mk (Sx.sign o) = SG at *
            have HST := Lib.hid hst
            generalize ((Sx.lvl o : Nat) : Int) = LO at *
            clear hi hlv hst hkd
            cases B with
            | true =>
              go_wp2_with (first | (go_at_call 71; refine (HLV.out _).mono ?_; rintro e w1 ⟨rfl, rfl⟩) | (go_at_call 72; refine (HS.out _).mono ?_; rintro e w1 ⟨rfl, rfl⟩) | (go_at_call 46; refine (HC.out _ (Below.refl _ _)).mono ?_; rintro e w1 ⟨rfl, hb1⟩; have HB1 := Lib.hid (HB.out.trans (hb1.mono HB.out.size)); clear hb1))
              go_ret
              exact ⟨ret_int (by rw [HF.out, HST.out]; simp), HB1.out⟩
            | false =>
              go_wp2_with (first | (go_at_call 71; refine (HLV.out _).mono ?_; rintro e w1 ⟨rfl, rfl⟩) | (go_at_call 72; refine (HS.out _).mono ?_; rintro e w1 ⟨rfl, rfl⟩) | (go_at_call 46; refine (HC.out _ (Below.refl _ _)).mono ?_; rintro e w1 ⟨rfl, hb1⟩; have HB1 := Lib.hid (HB.out.trans (hb1.mono HB.out.size)); clear hb1))
              go_roundw
              case rel => exact ⟨o + 1, rfl, by omega, by omega, Lib.hid (by rw [HF.out, HST.out]; simp), HB1⟩
              case measure => simp only [intOf]; omega
          · have tl : (((Sx.lvl o : Nat) : Int) == ((lev : Nat) : Int)) = false := by simp; omega
            have hst := Sx.opFrom_step (toksOf L p) lev h4 hlt
            have hi : Sx.isOp (toksOf L p) lev o = false := by unfold Sx.isOp; rw [decide_eq_false hlv, Bool.false_and]
            rw [hi] at hst
            have HST := Lib.hid hst
            generalize ((Sx.lvl o : Nat) : Int) = LO at *
            clear hi hlv hst hkd
            go_wp2_with (first | (go_at_call 71; refine (HLV.out _).mono ?_; rintro e w1 ⟨rfl, rfl⟩))
            go_roundw
            case rel => exact ⟨o + 1, rfl, by omega, by omega, Lib.hid (by rw [HF.out, HST.out]; simp), HB⟩
            case measure => simp only [intOf]; omega
        · have hkd : Sx.kindOf o = 4 := by unfold Sx.kindOf; rw [if_neg (by omega)]
          have q14 : (o == 14) = false := by simp [h14]
          have q15 : (o == 15) = false := by simp [h15]
          clear h14 h15
          by_cases hlv : Sx.lvl o = lev
          · have tl : (((Sx.lvl o : Nat) : Int) == ((lev : Nat) : Int)) = true := by rw [hlv]; simp
            have hst := Sx.opFrom_step (toksOf L p) lev h4 hlt
            have hi : Sx.isOp (toksOf L p) lev o = isT (toksOf L p) 4 (Sx.sign o) := by unfold Sx.isOp; rw [decide_eq_true hlv, Bool.true_and, hkd]
            rw [hi] at hst
            have HC := Lib.hid fun (wx : World) (hbx : Below wr.heap.size wr wx) => ris14_any (rdr_below HR.out hbx) 4 (Sx.sign o)
            generalize isT (toksOf L p) 4 (Sx.sign o) = B at *
            generalize Lx.mk (Sx.sign o) = SG at *
            have HST := Lib.hid hst
            generalize ((Sx.lvl o : Nat) : Int) = LO at *
            clear hi hlv hst hkd
            cases B with
            | true =>
              go_wp2_with (first | (go_at_call 71; refine (HLV.out _).mono ?_; rintro e w1 ⟨rfl, rfl⟩) | (go_at_call 72; refine (HS.out _).mono ?_; rintro e w1 ⟨rfl, rfl⟩) | (go_at_call 46; refine (HC.out _ (Below.refl _ _)).mono ?_; rintro e w1 ⟨rfl, hb1⟩; have HB1 := Lib.hid (HB.out.trans (hb1.mono HB.out.size)); clear hb1))
              go_ret
              exact ⟨ret_int (by rw [HF.out, HST.out]; simp), HB1.out⟩
            | false =>
              go_wp2_with (first | (go_at_call 71; refine (HLV.out _).mono ?_; rintro e w1 ⟨rfl, rfl⟩) | (go_at_call 72; refine (HS.out _).mono ?_; rintro e w1 ⟨rfl, rfl⟩) | (go_at_call 46; refine (HC.out _ (Below.refl _ _)).mono ?_; rintro e w1 ⟨rfl, hb1⟩; have HB1 := Lib.hid (HB.out.trans (hb1.mono HB.out.size)); clear hb1))
              go_roundw
              case rel => exact ⟨o + 1, rfl, by omega, by omega, Lib.hid (by rw [HF.out, HST.out]; simp), HB1⟩
              case measure => simp only [intOf]; omega
          · have tl : (((Sx.lvl o : Nat) : Int) == ((lev : Nat) : Int)) = false := by simp; omega
            have hst := Sx.opFrom_step (toksOf L p) lev h4 hlt
            have hi : Sx.isOp (toksOf L p) lev o = false := by unfold Sx.isOp; rw [decide_eq_false hlv, Bool.false_and]
            rw [hi] at hst
            have HST := Lib.hid hst
            generalize ((Sx.lvl o : Nat) : Int) = LO at *
            clear hi hlv hst hkd
            go_wp2_with (first | (go_at_call 71; refine (HLV.out _).mono ?_; rintro e w1 ⟨rfl, rfl⟩))
            go_roundw
            case rel => exact ⟨o + 1, rfl, by omega, by omega, Lib.hid (by rw [HF.out, HST.out]; simp), HB⟩
            case measure => simp only [intOf]; omega
    · have ho : o = 16 := by omega
      have HE := Lib.hid (show Sx.opAt (toksOf L p) lev = none by rw [HF.out, ho, Sx.opFrom_end])
      have t16 : decide (o ≤ 15) = false := decide_eq_false hlt
      clear ho
      go_wp2_with fail
      go_ret
      exact ⟨ret_int (by rw [HE.out]; rfl), HB.out⟩
end Go.Proofs.YtekahmlppaabjaaGreatDoor

/-
  Layer 14: the document's reader of tokens: what is at level 7.
-/
namespace Go.Proofs.YtekahmlppaabjaaGreatDoor
open Go.RowKit
open Sx (X toksOf isT)
theorem results_cell_one14 {fn : Func} {p : Tmp} {ty : TypeId} (h : fn.results = #[.cell p ty]) (tmps : Array Value) (P : Program) (w : World) :
    (results fn tmps).run P w = ((asAddr (tmps.getD p undef)).run P w).andThen fun a w₁ => (loadVar ty a).run P w₁ := by
  simp only [results, h]
  simp [Sem.run_bind, Result.andThen]
set_option maxRecDepth 100000 in
theorem results_x {fn : Func} {p : Tmp} (h : fn.results = #[.cell p 29]) (tmps : Array Value) (w : World) (g : Nat) (x : X) (a : Option Addr) (c : Nat)
    (hp : tmps.getD p undef = .pointer (some ⟨g, 0, none⟩)) (hg : RowV w g 29 (xC x a c).toList) :
    (results fn tmps).run Tryz.prog w = .ok (xV x a c) w := by
  have hl := run_loadVar_row (P := Tryz.prog) w g 29 29 (xC x a c) (0, 0) _ hg Tryz.underlying29 rfl info_expr
  rw [results_cell_one14 h, hp]
  simp only [asAddr, Sem.run_pure, Result.andThen]
  rw [hl]
/-- an expression stored into its box -/
theorem x_put {w : World} {N : Nat} {x : X} {a : Option Addr} {c : Nat} (hr : RowV w N 29 (xC x a c).toList) (op k n : Int) (vs s : ByteArray) (b : Option Addr) (m d : Nat) :
    RowV ((((((w.setCell ⟨N, 0, none⟩ (.int .i64 op)).setCell ⟨N, 1, none⟩ (.int .i64 k)).setCell ⟨N, 2, none⟩ (.int .i64 n)).setCell ⟨N, 3, none⟩ (.string vs)).setCell ⟨N, 4, none⟩ (.string s)).setCell ⟨N, 5, none⟩ (.slice b m d)) N 29 [.int .i64 op, .int .i64 k, .int .i64 n, .string vs, .string s, .slice b m d] ∧
    ∀ F : Nat → Prop, F N → Only F w ((((((w.setCell ⟨N, 0, none⟩ (.int .i64 op)).setCell ⟨N, 1, none⟩ (.int .i64 k)).setCell ⟨N, 2, none⟩ (.int .i64 n)).setCell ⟨N, 3, none⟩ (.string vs)).setCell ⟨N, 4, none⟩ (.string s)).setCell ⟨N, 5, none⟩ (.slice b m d)) :=
  ⟨rowV_stored (rowV_stored (rowV_stored (rowV_stored (rowV_stored (rowV_stored hr 0 (.int .i64 op)) 1 (.int .i64 k)) 2 (.int .i64 n)) 3 (.string vs)) 4 (.string s)) 5 (.slice b m d),
    fun F hF => ((((((Only.refl F w).setCell (g := N) (fun _ => hF) _).setCell (g := N) (fun _ => hF) _).setCell (g := N) (fun _ => hF) _).setCell (g := N) (fun _ => hF) _).setCell (g := N) (fun _ => hF) _).setCell (g := N) (fun _ => hF) _⟩
/-- what a reading leaves -/
def RdPost (R : Nat) (al : Option Addr) (cap : Nat) (L : List Lx.T) (r : Option X × Nat) (w : World) (e : Ending) (w' : World) : Prop :=
  ∃ y a c, e = .returned (xV y a c) ∧ XAt w' (fun j => w.heap.size ≤ j) y a ∧ (∀ x, r.1 = some x → y = x) ∧ Rdr w' R al cap L r.2 r.1.isNone ∧ Only (fun k => k = R) w w'
theorem x_ice {w : World} {g : Nat} {x : X} {a : Option Addr} {c : Nat} (h : RowV w g 29 (xC x a c).toList) : w.frozen? ⟨g, 0, none⟩ = false ∧ w.frozen? ⟨g, 1, none⟩ = false ∧ w.frozen? ⟨g, 2, none⟩ = false ∧ w.frozen? ⟨g, 3, none⟩ = false ∧ w.frozen? ⟨g, 4, none⟩ = false ∧ w.frozen? ⟨g, 5, none⟩ = false :=
  ⟨rowV_frozen h 0, rowV_frozen h 1, rowV_frozen h 2, rowV_frozen h 3, rowV_frozen h 4, rowV_frozen h 5⟩
/-- a new box for an expression -/
theorem no_new (w : World) : RowV (w.alloc (.cells #[.int .i64 0, .int .i64 0, .int .i64 0, .string ⟨#[]⟩, .string ⟨#[]⟩, .slice none 0 0] 29)) w.heap.size 29 (xC Sx.no none 0).toList ∧ Below w.heap.size w (w.alloc (.cells #[.int .i64 0, .int .i64 0, .int .i64 0, .string ⟨#[]⟩, .string ⟨#[]⟩, .slice none 0 0] 29)) ∧ (w.alloc (.cells #[.int .i64 0, .int .i64 0, .int .i64 0, .string ⟨#[]⟩, .string ⟨#[]⟩, .slice none 0 0] 29)).heap.size = w.heap.size + 1 := x_new Sx.no none 0 w
/-- an expression stored into a box made since: the reader stands as it stood -/
theorem rdr_put {w w' : World} {R N : Nat} {al : Option Addr} {cap : Nat} {L : List Lx.T} {p : Nat} {bad : Bool} (h : Rdr w R al cap L p bad) (hN : R < N) (ho : Only (fun k => k = N) w w') : Rdr w' R al cap L p bad :=
  rdr_only h ho (by omega) fun k hk => by omega
set_option maxRecDepth 100000 in
set_option maxHeartbeats 6400000 in
/-- where it has failed, or stands at the end, nothing more is read -/
theorem rfirst14_no {w : World} {R : Nat} {al : Option Addr} {cap : Nat} {L : List Lx.T} {p : Nat} {bad : Bool} (h : Rdr w R al cap L p bad) (hb : bad = true ∨ L.length ≤ p) : Calls Tryz.prog 45 #[.pointer (some ⟨R, 0, none⟩)] w (RdPost R al cap L (none, p) w) := by
  have hA := no_new w
  have HR := Lib.hid (And.intro (rdr_below h hA.2.1) (And.intro hA.1 hA.2.1))
  obtain ⟨c0, c1, c2, c3, c4⟩ := rdr_cells HR.out.1
  have hRlt := rowV_lt h.1
  have hN : R < w.heap.size := hRlt
  have t0 : bad = false → decide (L.length ≤ p) = true := fun hf => by
    subst hf
    exact decide_eq_true (hb.elim (fun h => by cases h) id)
  clear h hA hb
  cases bad with
  | true =>
    clear t0
    go_enter Tryz.func45, Tryz.ntmps45
    go_wp2_with fail
    generalize hw0 : World.alloc _ _ = w0 at *
    go_quiet (fail)
    have HB : Hid (Below w0.heap.size w0 (w0.drewN nq)) := Lib.hid (below_drewN (Below.refl _ _) nq)
    generalize w0.drewN nq = wq at *
    have HQ := Lib.hid (And.intro (rdr_below HR.out.1 HB.out) (rowV_below HR.out.2.1 HB.out (rowV_lt HR.out.2.1)))
    obtain ⟨d0, d1, d2, d3, d4⟩ := rdr_cells HQ.out.1
    obtain ⟨f0, f1, f2, f3, f4, f5⟩ := x_ice HQ.out.2
    obtain ⟨e0, e1, e2, e3, e4, e5⟩ := x_cells HQ.out.2
    simp only [Nat.zero_add] at e0 e1 e2 e3 e4 e5
    have hne : ¬ R = w.heap.size := by omega
    clear c0 c1 c2 c3 c4 hRlt
    have HF := Lib.hid (And.intro hN HR.out.2.2)
    clear hN
    generalize hNN : w.heap.size = N at *
    have HN := Lib.hid hNN
    clear hNN
    go_wp2_with fail
    have HO := Lib.hid (rdr_bad HQ.out.1 true).2
    have HP := Lib.hid (And.intro (rdr_bad HQ.out.1 true).1 (rowV_far HQ.out.2 (by omega : N ≠ R) (i := 2) (.bool true)))
    have hx := x_put HP.out.2 0 0 0 ⟨#[]⟩ ⟨#[]⟩ none 0 0
    have ho := hx.2 (fun k => k = N) rfl
    refine bodyPost_ret (v := xV Sx.no none 0) (results_x (p := 2) rfl _ _ N Sx.no none 0 rfl hx.1) rfl ⟨Sx.no, none, 0, rfl, xat_no _ _ _, fun x h => (by cases h), rdr_put HP.out.1 HF.out.1 ho, ?_⟩
    have hb0 : Below w.heap.size w wq := by rw [HN.out]; exact HF.out.2.trans (HB.out.mono (by have := HF.out.2.size; have := HN.out; omega))
    exact ((Only.of_none hb0).more HO.out).trans ho fun i hi e => absurd hi (by have := HN.out; omega)
  | false =>
    have t1 := t0 rfl
    clear t0
    go_enter Tryz.func45, Tryz.ntmps45
    go_wp2_with fail
    generalize hw0 : World.alloc _ _ = w0 at *
    go_quiet (fail)
    have HB : Hid (Below w0.heap.size w0 (w0.drewN nq)) := Lib.hid (below_drewN (Below.refl _ _) nq)
    generalize w0.drewN nq = wq at *
    have HQ := Lib.hid (And.intro (rdr_below HR.out.1 HB.out) (rowV_below HR.out.2.1 HB.out (rowV_lt HR.out.2.1)))
    obtain ⟨d0, d1, d2, d3, d4⟩ := rdr_cells HQ.out.1
    obtain ⟨f0, f1, f2, f3, f4, f5⟩ := x_ice HQ.out.2
    obtain ⟨e0, e1, e2, e3, e4, e5⟩ := x_cells HQ.out.2
    simp only [Nat.zero_add] at e0 e1 e2 e3 e4 e5
    have hne : ¬ R = w.heap.size := by omega
    clear c0 c1 c2 c3 c4 hRlt
    have HF := Lib.hid (And.intro hN HR.out.2.2)
    clear hN
    generalize hNN : w.heap.size = N at *
    have HN := Lib.hid hNN
    clear hNN
    go_wp2_with fail
    have HO := Lib.hid (rdr_bad HQ.out.1 true).2
    have HP := Lib.hid (And.intro (rdr_bad HQ.out.1 true).1 (rowV_far HQ.out.2 (by omega : N ≠ R) (i := 2) (.bool true)))
    have hx := x_put HP.out.2 0 0 0 ⟨#[]⟩ ⟨#[]⟩ none 0 0
    have ho := hx.2 (fun k => k = N) rfl
    refine bodyPost_ret (v := xV Sx.no none 0) (results_x (p := 2) rfl _ _ N Sx.no none 0 rfl hx.1) rfl ⟨Sx.no, none, 0, rfl, xat_no _ _ _, fun x h => (by cases h), rdr_put HP.out.1 HF.out.1 ho, ?_⟩
    have hb0 : Below w.heap.size w wq := by rw [HN.out]; exact HF.out.2.trans (HB.out.mono (by have := HF.out.2.size; have := HN.out; omega))
    exact ((Only.of_none hb0).more HO.out).trans ho fun i hi e => absurd hi (by have := HN.out; omega)
end Go.Proofs.YtekahmlppaabjaaGreatDoor

/-
  Layer 14, the program's: the token and the word that stand here; what they are of tokens that are right.
-/
namespace Go.Proofs.YtekahmlppaabjaaGreatDoor
open Go.RowKit
open Sx (X toksOf isT)
namespace Sx
def tokAt (L : List Lx.T) (p : Nat) : Lx.T := (L[p]?).getD Lx.no
/-- the name or mark that a token is -/
def wdT (t : Lx.T) : ByteArray := if t.kind = 1 ∨ t.kind = 4 then t.s else Vl.mt
def wd (L : List Lx.T) (p : Nat) : ByteArray := wdT (tokAt L p)
theorem tokAt_in {L : List Lx.T} {p : Nat} (h : p < L.length) : tokAt L p = L[p] := by unfold tokAt; rw [List.getElem?_eq_getElem h]; rfl
theorem tokAt_out {L : List Lx.T} {p : Nat} (h : L.length ≤ p) : tokAt L p = Lx.no := by unfold tokAt; rw [List.getElem?_eq_none h]; rfl
section
variable {L : List Lx.T}
theorem wd_is {p : Nat} {k : Int} {s : List UInt8} (h : isT (toksOf L p) k s = true) (hk : k = 1 ∨ k = 4) : wd L p = Lx.mk s := by
  unfold toksOf at h
  cases hp : L[p]? with
  | none => rw [hp] at h; simp [isT] at h
  | some t =>
    rw [hp] at h
    simp only [Option.map_some, isT, Bool.and_eq_true, decide_eq_true_eq] at h
    have h1 : t.kind = k := h.1
    have h2 : t.s = Lx.mk s := h.2
    unfold wd tokAt wdT
    rw [hp]
    simp only [Option.getD_some]
    rw [if_pos (by omega), h2]
theorem mark_ne : ∀ m ∈ Lx.marks, Lx.word false m ≠ m.length := by decide +kernel
theorem mk_size (l : List UInt8) : (Lx.mk l).size = l.length := List.size_toArray ..
theorem mk_list (l : List UInt8) : (Lx.mk l).data.toList = l := rfl
/-- a right token's word is a text just if it is that token -/
theorem wd_not {p : Nat} (hL : ∀ t ∈ L, Lx.right t) {k : Int} {s : List UInt8} (h : isT (toksOf L p) k s = false) (hk : (k = 1 ∧ Lx.word false s = s.length ∧ s ≠ []) ∨ (k = 4 ∧ s ∈ Lx.marks)) : ¬ wd L p = Lx.mk s := by
  have hs : ¬ Lx.mk s = Vl.mt := by
    intro e
    have e2 : s = [] := congrArg (fun b : ByteArray => b.data.toList) e
    rcases hk with h | h
    · exact h.2.2 e2
    · rw [e2] at h; exact absurd h.2 (by decide)
  intro he
  unfold toksOf at h
  unfold wd tokAt at he
  cases hp : L[p]? with
  | none =>
    rw [hp] at he
    exact hs (he.symm.trans (by decide +kernel))
  | some t =>
    rw [hp] at h he
    simp only [Option.getD_some] at he
    have hr := hL t (List.mem_of_getElem? hp)
    unfold wdT at he
    split at he
    · rename_i hkind
      have hne : ¬ t.kind = k := fun e => by
        simp only [Option.map_some, isT] at h
        have h1 : decide ((Lx.strip t).kind = k) = true := decide_eq_true e
        have h2 : decide ((Lx.strip t).s = Lx.mk s) = true := decide_eq_true he
        rw [h1, h2] at h
        cases h
      rcases hr with ⟨hk1, _, _, hw, _⟩ | ⟨hk2, _⟩ | ⟨hk2, _⟩ | ⟨hk4, hm, _⟩
      · rcases hk with h' | h'
        · omega
        · rw [he, mk_list, mk_size] at hw
          exact mark_ne s h'.2 hw
      · omega
      · omega
      · rcases hk with h' | h'
        · rw [he, mk_list] at hm
          exact mark_ne s hm h'.2.1
        · omega
    · exact hs he.symm
theorem sign_ok : ∀ op ∈ ops, (kindOf op = 1 ∧ Lx.word false (sign op) = (sign op).length ∧ sign op ≠ []) ∨ (kindOf op = 4 ∧ sign op ∈ Lx.marks) := by decide +kernel
theorem kind_ok : ∀ op ∈ ops, kindOf op = 1 ∨ kindOf op = 4 := by decide +kernel
theorem find_congr {α : Type} {p q : α → Bool} : ∀ (l : List α), (∀ x ∈ l, p x = q x) → l.find? p = l.find? q
  | [], _ => rfl
  | x :: l, h => by
    rw [List.find?_cons, List.find?_cons, h x (List.mem_cons_self ..), find_congr l fun y hy => h y (List.mem_cons_of_mem _ hy)]
theorem opW_wd {p : Nat} (hL : ∀ t ∈ L, Lx.right t) : opW (wd L p) = opOf (toksOf L p) := by
  unfold opW opOf
  refine find_congr _ fun op hop => ?_
  cases h : isT (toksOf L p) (kindOf op) (sign op) with
  | true => exact decide_eq_true (wd_is h (kind_ok op hop)).symm
  | false => exact decide_eq_false fun e => wd_not hL h (sign_ok op hop) e.symm
end
end Sx
set_option maxRecDepth 100000 in
theorem results_cell_one13 {fn : Func} {p : Tmp} {ty : TypeId} (h : fn.results = #[.cell p ty]) (tmps : Array Value) (P : Program) (w : World) :
    (results fn tmps).run P w =
      ((asAddr (tmps.getD p undef)).run P w).andThen fun a w₁ => (loadVar ty a).run P w₁ := by
  simp only [results, h]
  simp [Sem.run_bind, Result.andThen]
set_option maxRecDepth 100000 in
theorem results_tok1 {fn : Func} {p : Tmp} (h : fn.results = #[.cell p 45]) (tmps : Array Value) (w : World) (g : Nat) (v : Lx.T)
    (hp : tmps.getD p undef = .pointer (some ⟨g, 0, none⟩)) (hg : RowV w g 45 (tokC v).toList) :
    (results fn tmps).run Tryz.prog w = .ok (tokV v) w := by
  have hl := run_loadVar_row (P := Tryz.prog) w g 45 45 (tokC v) (0, 0) _ hg Tryz.underlying45 rfl info_tok
  rw [results_cell_one13 h, hp]
  simp only [asAddr, Sem.run_pure, Result.andThen]
  rw [hl]
theorem notok_new (w : World) : RowV (w.alloc (.cells #[.int .i64 0, .string ⟨#[]⟩, .int .i64 0, .int .i64 0] 45)) w.heap.size 45 (tokC Lx.no).toList ∧ Below w.heap.size w (w.alloc (.cells #[.int .i64 0, .string ⟨#[]⟩, .int .i64 0, .int .i64 0] 45)) ∧ (w.alloc (.cells #[.int .i64 0, .string ⟨#[]⟩, .int .i64 0, .int .i64 0] 45)).heap.size = w.heap.size + 1 := tok_new Lx.no w
set_option maxRecDepth 100000 in
set_option maxHeartbeats 6400000 in
/-- the token that stands here -/
theorem token14_any {w : World} {R : Nat} {al : Option Addr} {cap : Nat} {L : List Lx.T} {p : Nat} (c0 : w.cell? ⟨R, 0, none⟩ = some (.slice al L.length cap)) (c1 : w.cell? ⟨R, 1, none⟩ = some (.int .i64 (p : Int))) (hT : ReadsT13 w al L) (hp : p ≤ L.length) :
    Calls Tryz.prog 67 #[.pointer (some ⟨R, 0, none⟩)] w fun e w' => e = .returned (tokV (Sx.tokAt L p)) ∧ Below w.heap.size w w' := by
  have hRl : R < w.heap.size := World.block_lt_of_cell? _ _ c0
  obtain ⟨n0, n1, n2⟩ := notok_new w
  have HN := Lib.hid (And.intro n0 (And.intro n1 n2))
  have cc0 := (n1.cell (p := ⟨R, 0, none⟩) hRl).trans c0
  have cc1 := (n1.cell (p := ⟨R, 1, none⟩) hRl).trans c1
  clear n0 n1 n2
  by_cases h : p < L.length
  · rw [Sx.tokAt_in h]
    obtain ⟨b, off, rfl, d0, d1, d2, d3⟩ := hT p h
    have hbl : b < w.heap.size := World.block_lt_of_cell? _ _ d0
    have t0 : ((p : Int) == (L.length : Int)) = false := by simp; omega
    have dd0 := (HN.out.2.1.cell (p := ⟨b, off + p * 4, none⟩) hbl).trans d0
    have dd1 := (HN.out.2.1.cell (p := ⟨b, off + p * 4 + 1, none⟩) hbl).trans d1
    have dd2 := (HN.out.2.1.cell (p := ⟨b, off + p * 4 + 2, none⟩) hbl).trans d2
    have dd3 := (HN.out.2.1.cell (p := ⟨b, off + p * 4 + 3, none⟩) hbl).trans d3
    generalize L[p] = T at *
    obtain ⟨tk, ts, tn, ta⟩ := T
    simp only at dd0 dd1 dd2 dd3 ⊢
    obtain ⟨m0, m1, m2, m3, f0, f1, f2, f3⟩ := tok_cells HN.out.1
    clear d0 d1 d2 d3 c0 c1 hT hp
    go_enter Tryz.func67, Tryz.ntmps67
    go_upto_region 1 with (fail)
    generalize hws : World.alloc w _ = ws at *
    go_quiet (fail)
    go_wp2_with fail
    go_region
    go_wp2_with fail
    have hE := tok_put HN.out.1 tk ts tn ta
    refine bodyPost_ret (v := tokV ⟨tk, ts, tn, ta⟩) (results_tok1 (p := 2) rfl _ _ w.heap.size ⟨tk, ts, tn, ta⟩ rfl (rowV_below hE.1 (below_drewN (Below.refl _ _) _) (rowV_lt hE.1))) rfl ?_
    exact ⟨rfl, below_drewN (HN.out.2.1.trans (hE.2 _ (Nat.le_refl _))) _⟩
  · rw [Sx.tokAt_out (by omega)]
    have t0 : ((p : Int) == (L.length : Int)) = true := by simp; omega
    obtain ⟨m0, m1, m2, m3, f0, f1, f2, f3⟩ := tok_cells HN.out.1
    clear c0 c1 hT hp
    go_enter Tryz.func67, Tryz.ntmps67
    go_upto_region 1 with (fail)
    generalize hws : World.alloc w _ = ws at *
    go_quiet (fail)
    go_wp2_with fail
    have hE := tok_put HN.out.1 0 ⟨#[]⟩ 0 0
    refine bodyPost_ret (v := tokV Lx.no) (results_tok1 (p := 2) rfl _ _ w.heap.size Lx.no rfl (rowV_below hE.1 (below_drewN (Below.refl _ _) _) (rowV_lt hE.1))) rfl ?_
    exact ⟨rfl, below_drewN (HN.out.2.1.trans (hE.2 _ (Nat.le_refl _))) _⟩
end Go.Proofs.YtekahmlppaabjaaGreatDoor

/-
  Layer 14: the document's reader of tokens: what is at level 7, where a token stands.
-/
namespace Go.Proofs.YtekahmlppaabjaaGreatDoor
open Go.RowKit
open Sx (X toksOf isT)
theorem wp_alloc14 {P : Program} {o : Oper} {a : Act} {w : World} {K : Act → World → Prop} {Q : Exit → Act → World → Prop} (t : TypeId) (g : Nat) (zs : Array Value) (hrun : (execOp a.eval o).run P w = .ok (.value (.pointer (some ⟨g, 0, none⟩))) (w.alloc (.cells zs t)))
    (h : K (a.put o.dst (.pointer (some ⟨g, 0, none⟩))) (w.alloc (.cells zs t))) : Oper.wp P o a w K Q := by
  unfold Oper.wp
  rw [hrun]
  exact h
theorem tok_one14 (T : Lx.T) : (tokC T).all (·.oneCell') = true := by simp [tokC, Value.oneCell']
/-- what is read at level 7, where what stands behind '(' is read so -/
def Sx.fst (L : List Lx.T) (p : Nat) (r0 : Option X × Nat) : Option X × Nat :=
  match toksOf L p with
  | none => (none, p)
  | some t => match Sx.leaf t with
    | some x => (some x, p + 1)
    | none => if isT (toksOf L p) 4 [40] then
        match r0 with
        | (none, q) => (none, q)
        | (some x, q) => if isT (toksOf L q) 4 [41] then (some x, q + 1) else (none, q)
      else (none, p)
theorem Sx.fst_eq {L : List Lx.T} {p : Nat} (hp : p < L.length) {T : Lx.T} (h : L[p] = T) (r0 : Option X × Nat) : Sx.fst L p r0 = match Sx.leaf T with
    | some x => (some x, p + 1)
    | none => if isT (toksOf L p) 4 [40] then
        (match r0 with | (none, q) => (none, q) | (some x, q) => if isT (toksOf L q) 4 [41] then (some x, q + 1) else (none, q))
      else (none, p) := by
  have e := toksOf_at hp
  rw [h] at e
  unfold Sx.fst
  generalize toksOf L p = g at *
  subst e
  rfl
section
variable {T : Lx.T}
theorem Sx.lf_null (h : (decide (T.kind = 1) && decide (T.s = Lx.mk [110, 117, 108, 108])) = true) : Sx.leaf T = some (.mk 1 ⟨0, 0, ⟨#[]⟩⟩ ⟨#[]⟩ []) := by
  simp only [Bool.and_eq_true, decide_eq_true_eq] at h
  unfold Sx.leaf; rw [if_neg (by omega), if_neg (by omega), if_pos h.1, if_pos h.2]; rfl
theorem Sx.lf_true (h : (decide (T.kind = 1) && decide (T.s = Lx.mk [116, 114, 117, 101])) = true) : Sx.leaf T = some (.mk 1 ⟨3, 1, ⟨#[]⟩⟩ ⟨#[]⟩ []) := by
  simp only [Bool.and_eq_true, decide_eq_true_eq] at h
  unfold Sx.leaf; rw [if_neg (by omega), if_neg (by omega), if_pos h.1, h.2, if_neg (by decide), if_pos rfl]
theorem Sx.lf_false (h : (decide (T.kind = 1) && decide (T.s = Lx.mk [102, 97, 108, 115, 101])) = true) : Sx.leaf T = some (.mk 1 ⟨3, 0, ⟨#[]⟩⟩ ⟨#[]⟩ []) := by
  simp only [Bool.and_eq_true, decide_eq_true_eq] at h
  unfold Sx.leaf; rw [if_neg (by omega), if_neg (by omega), if_pos h.1, h.2, if_neg (by decide), if_neg (by decide), if_pos rfl]
theorem Sx.lf_word (h1 : (decide (T.kind = 1) && decide (T.s = Lx.mk [110, 117, 108, 108])) = false) (h2 : (decide (T.kind = 1) && decide (T.s = Lx.mk [116, 114, 117, 101])) = false) (h3 : (decide (T.kind = 1) && decide (T.s = Lx.mk [102, 97, 108, 115, 101])) = false) (hk : T.kind = 1) : Sx.leaf T = if Lx.nameB T.s then some (.mk 2 Vl.no T.s []) else none := by
  rw [decide_eq_true hk, Bool.true_and, decide_eq_false_iff_not] at h1 h2 h3
  unfold Sx.leaf; rw [if_neg (by omega), if_neg (by omega), if_pos hk, if_neg h1, if_neg h2, if_neg h3]
theorem Sx.lf_other (h1 : ¬ T.kind = 1) (h2 : ¬ T.kind = 2) (h3 : ¬ T.kind = 3) : Sx.leaf T = none := by
  unfold Sx.leaf; rw [if_neg h2, if_neg h3, if_neg h1]
end
/-- while a token is looked at -/
def FstAt (w wx : World) (R N N2 N3 : Nat) (al : Option Addr) (cap : Nat) (L : List Lx.T) (p : Nat) (T : Lx.T) (x : X) : Prop :=
  Rdr wx R al cap L p false ∧ RowV wx N 29 (xC Sx.no none 0).toList ∧ RowV wx N2 45 (tokC T).toList ∧ RowV wx N3 29 (xC x none 0).toList ∧ Only (fun k => k = R) w wx
theorem fst_below {w wx wy : World} {R N N2 N3 : Nat} {al : Option Addr} {cap : Nat} {L : List Lx.T} {p : Nat} {T : Lx.T} {x : X} (h : FstAt w wx R N N2 N3 al cap L p T x) (hb : Below wx.heap.size wx wy) : FstAt w wy R N N2 N3 al cap L p T x :=
  ⟨rdr_below h.1 hb, rowV_below h.2.1 hb (rowV_lt h.2.1), rowV_below h.2.2.1 hb (rowV_lt h.2.2.1), rowV_below h.2.2.2.1 hb (rowV_lt h.2.2.2.1), h.2.2.2.2.more (Only.of_none hb)⟩
theorem fst_is {w : World} {R N N2 N3 : Nat} {al : Option Addr} {cap : Nat} {L : List Lx.T} {p : Nat} {T : Lx.T} {x : X} (kind : Int) (s : List UInt8) {B : Bool} (hB : isT (toksOf L p) kind s = B) : ∀ (wx : World), FstAt w wx R N N2 N3 al cap L p T x →
    Calls Tryz.prog 46 #[.pointer (some ⟨R, 0, none⟩), .int .i64 kind, .string (Lx.mk s)] wx fun e w' => e = .returned (.bool B) ∧ FstAt w w' R N N2 N3 al cap L p T x := fun _ h =>
  (ris14_any h.1 kind s).mono fun _ _ hh => ⟨hh.1.trans (ret_bool hB), fst_below h hh.2⟩
/-- one token is read, and is told -/
theorem fst_ret {w wz : World} {R N : Nat} {al : Option Addr} {cap : Nat} {L : List Lx.T} {p : Nat} (hR : Rdr wz R al cap L p false) (hN : RowV wz N 29 (xC Sx.no none 0).toList) (hRN : R < N) (hwN : w.heap.size ≤ N) (ho : Only (fun k => k = R) w wz) (op k n : Int) (vs s : ByteArray) :
    RowV (((((((wz.setCell ⟨R, 1, none⟩ (.int .i64 ((p : Int) + 1))).setCell ⟨N, 0, none⟩ (.int .i64 op)).setCell ⟨N, 1, none⟩ (.int .i64 k)).setCell ⟨N, 2, none⟩ (.int .i64 n)).setCell ⟨N, 3, none⟩ (.string vs)).setCell ⟨N, 4, none⟩ (.string s)).setCell ⟨N, 5, none⟩ (.slice none 0 0)) N 29 (xC (.mk op ⟨k, n, vs⟩ s []) none 0).toList ∧
    RdPost R al cap L (some (.mk op ⟨k, n, vs⟩ s []), p + 1) w (.returned (xV (.mk op ⟨k, n, vs⟩ s []) none 0)) (((((((wz.setCell ⟨R, 1, none⟩ (.int .i64 ((p : Int) + 1))).setCell ⟨N, 0, none⟩ (.int .i64 op)).setCell ⟨N, 1, none⟩ (.int .i64 k)).setCell ⟨N, 2, none⟩ (.int .i64 n)).setCell ⟨N, 3, none⟩ (.string vs)).setCell ⟨N, 4, none⟩ (.string s)).setCell ⟨N, 5, none⟩ (.slice none 0 0)) := by
  have h1 := rdr_at hR (p + 1)
  have h2 := x_put (rowV_far hN (show N ≠ R by omega) (i := 1) (.int .i64 ((p : Int) + 1))) op k n vs s none 0 0
  have h3 := h2.2 (fun k => k = N) rfl
  refine ⟨h2.1, _, none, 0, rfl, ?_, fun x h => (by cases h; rfl), rdr_put h1.1 hRN h3, ?_⟩
  · rw [XAt]; exact .inl rfl
  · exact (ho.more h1.2).trans h3 fun i hi e => absurd hi (by omega)
/-- nothing that stands here is read -/
theorem fst_bad {w wz : World} {R N : Nat} {al : Option Addr} {cap : Nat} {L : List Lx.T} {p : Nat} (hR : Rdr wz R al cap L p false) (hN : RowV wz N 29 (xC Sx.no none 0).toList) (hRN : R < N) (hwN : w.heap.size ≤ N) (ho : Only (fun k => k = R) w wz) :
    RowV (((((((wz.setCell ⟨R, 2, none⟩ (.bool true)).setCell ⟨N, 0, none⟩ (.int .i64 0)).setCell ⟨N, 1, none⟩ (.int .i64 0)).setCell ⟨N, 2, none⟩ (.int .i64 0)).setCell ⟨N, 3, none⟩ (.string ⟨#[]⟩)).setCell ⟨N, 4, none⟩ (.string ⟨#[]⟩)).setCell ⟨N, 5, none⟩ (.slice none 0 0)) N 29 (xC Sx.no none 0).toList ∧
    RdPost R al cap L (none, p) w (.returned (xV Sx.no none 0)) (((((((wz.setCell ⟨R, 2, none⟩ (.bool true)).setCell ⟨N, 0, none⟩ (.int .i64 0)).setCell ⟨N, 1, none⟩ (.int .i64 0)).setCell ⟨N, 2, none⟩ (.int .i64 0)).setCell ⟨N, 3, none⟩ (.string ⟨#[]⟩)).setCell ⟨N, 4, none⟩ (.string ⟨#[]⟩)).setCell ⟨N, 5, none⟩ (.slice none 0 0)) := by
  have h1 := rdr_bad hR true
  have h2 := x_put (rowV_far hN (show N ≠ R by omega) (i := 2) (.bool true)) 0 0 0 ⟨#[]⟩ ⟨#[]⟩ none 0 0
  have h3 := h2.2 (fun k => k = N) rfl
  refine ⟨h2.1, Sx.no, none, 0, rfl, xat_no _ _ _, fun x h => (by cases h), rdr_put h1.1 hRN h3, ?_⟩
  exact (ho.more h1.2).trans h3 fun i hi e => absurd hi (by omega)
theorem fst_set {w w3 wz : World} {R N N2 N3 : Nat} {al : Option Addr} {cap : Nat} {L : List Lx.T} {p : Nat} {T : Lx.T} {x : X} (h : FstAt w w3 R N N2 N3 al cap L p T x) (ho : Only (fun k => k = N3) w3 wz) (hn : R < N ∧ R < N3 ∧ w.heap.size ≤ N ∧ w.heap.size ≤ N3) (hne : ¬ N = N3) :
    Rdr wz R al cap L p false ∧ RowV wz N 29 (xC Sx.no none 0).toList ∧ Only (fun k => k = R) w wz :=
  ⟨rdr_put h.1 hn.2.1 ho, rowV_only h.2.1 ho hne, h.2.2.2.2.trans ho fun i hi e => absurd hi (by omega)⟩
/-- what stands behind '(' is read -/
def Sub (w w6 : World) (R N N3 : Nat) (al : Option Addr) (cap : Nat) (L : List Lx.T) (ro : Option X) (q : Nat) (y : X) (ay : Option Addr) (x : X) : Prop :=
  XAt w6 (fun j => N < j ∧ N3 < j ∧ w.heap.size ≤ j) y ay ∧ (∀ x, ro = some x → y = x) ∧ Rdr w6 R al cap L q ro.isNone ∧ RowV w6 N 29 (xC Sx.no none 0).toList ∧ RowV w6 N3 29 (xC x none 0).toList ∧ Only (fun k => k = R) w w6
theorem fst_read {w w5 w6 : World} {R N N2 N3 : Nat} {al : Option Addr} {cap : Nat} {L : List Lx.T} {p : Nat} {T : Lx.T} {x : X} (H : FstAt w w5 R N N2 N3 al cap L p T x) (hn : R < N ∧ R < N3 ∧ w.heap.size ≤ N ∧ w.heap.size ≤ N3) {v : Value} {ro : Option X} {q : Nat} {y : X} {ay : Option Addr}
    (hxy : XAt w6 (fun j => (w5.setCell ⟨R, 1, none⟩ v).heap.size ≤ j) y ay) (hsm : ∀ x, ro = some x → y = x) (hR6 : Rdr w6 R al cap L q ro.isNone) (ho6 : Only (fun k => k = R) (w5.setCell ⟨R, 1, none⟩ v) w6) : Sub w w6 R N N3 al cap L ro q y ay x := by
  have h1 : Only (fun k => k = R) w5 (w5.setCell ⟨R, 1, none⟩ v) := Only.setCell (F := fun k => k = R) (Only.refl _ _) (fun _ => rfl) _
  have ho := h1.more ho6
  have hl1 := rowV_lt H.2.1
  have hl2 := rowV_lt H.2.2.2.1
  have hl3 := H.2.2.2.2.size
  have hl4 := h1.size
  refine ⟨xat_mono (fun j hj => ?_) y ay hxy, hsm, hR6, rowV_only H.2.1 ho (by omega), rowV_only H.2.2.2.1 ho (by omega), H.2.2.2.2.more ho⟩
  have hj2 : (w5.setCell ⟨R, 1, none⟩ v).heap.size ≤ j := hj
  omega
theorem fst_take {w w6 w7 : World} {R N N3 : Nat} {al : Option Addr} {cap : Nat} {L : List Lx.T} {ro : Option X} {q : Nat} {y : X} {ay : Option Addr} {x : X} {cy : Nat} (H : Sub w w6 R N N3 al cap L ro q y ay x) (hn : R < N ∧ R < N3 ∧ w.heap.size ≤ N ∧ w.heap.size ≤ N3) (hne : ¬ N = N3) {q' : Nat} {b' : Bool} (hR7 : Rdr w7 R al cap L q' b')
    (ho7 : Only (fun k => k = R) ((((((w6.setCell ⟨N3, 0, none⟩ (.int .i64 y.op)).setCell ⟨N3, 1, none⟩ (.int .i64 y.v.kind)).setCell ⟨N3, 2, none⟩ (.int .i64 y.v.n)).setCell ⟨N3, 3, none⟩ (.string y.v.s)).setCell ⟨N3, 4, none⟩ (.string y.s)).setCell ⟨N3, 5, none⟩ (.slice ay y.l.length cy)) w7) :
    (XAt w7 (fun j => N < j ∧ N3 < j ∧ w.heap.size ≤ j) y ay ∧ (∀ x, ro = some x → y = x)) ∧ Rdr w7 R al cap L q' b' ∧ RowV w7 N 29 (xC Sx.no none 0).toList ∧ RowV w7 N3 29 (xC y ay cy).toList ∧ Only (fun k => k = R) w w7 := by
  have hP := x_put H.2.2.2.2.1 y.op y.v.kind y.v.n y.v.s y.s ay y.l.length cy
  have ho := hP.2 (fun k => k = N3) rfl
  refine ⟨⟨xat_only ho7 (fun j hj e => ?_) y ay (xat_only ho (fun j hj e => ?_) y ay H.1), H.2.1⟩, hR7, rowV_only (rowV_only H.2.2.2.1 ho hne) ho7 (by omega), rowV_only hP.1 ho7 (by omega), (H.2.2.2.2.2.trans ho fun i hi e => absurd hi (by omega)).more ho7⟩
  · have := hj.1; omega
  · have := hj.2.1; omega
theorem fst_end {w w7 wz : World} {R N N3 : Nat} {al : Option Addr} {cap : Nat} {L : List Lx.T} {ro : Option X} {q : Nat} {y : X} {ay : Option Addr} {cy : Nat}
    (H : (XAt w7 (fun j => N < j ∧ N3 < j ∧ w.heap.size ≤ j) y ay ∧ (∀ x, ro = some x → y = x)) ∧ Rdr w7 R al cap L (if ro.isNone then q else if isT (toksOf L q) 4 [41] then q + 1 else q) (ro.isNone || !(isT (toksOf L q) 4 [41])) ∧ RowV w7 N 29 (xC Sx.no none 0).toList ∧ RowV w7 N3 29 (xC y ay cy).toList ∧ Only (fun k => k = R) w w7)
    (hn : R < N ∧ R < N3 ∧ w.heap.size ≤ N ∧ w.heap.size ≤ N3) (ho : Only (fun k => k = N) w7 wz) :
    RdPost R al cap L (match (ro, q) with | (none, q) => (none, q) | (some x, q) => if isT (toksOf L q) 4 [41] then (some x, q + 1) else (none, q)) w (.returned (xV y ay cy)) wz := by
  obtain ⟨⟨h1, h2⟩, h3, _, _, h6⟩ := H
  have hx : XAt wz (fun j => w.heap.size ≤ j) y ay := xat_mono (fun j hj => hj.2.2) y ay (xat_only ho (fun j hj e => by have := hj.1; omega) y ay h1)
  have hR := rdr_put h3 hn.1 ho
  have hO : Only (fun k => k = R) w wz := h6.trans ho fun i hi e => absurd hi (by omega)
  cases ro with
  | none => exact ⟨y, ay, cy, rfl, hx, fun x h => (by cases h), hR, hO⟩
  | some x0 =>
    simp only
    cases hB : isT (toksOf L q) 4 [41] with
    | true =>
      rw [hB] at hR
      exact ⟨y, ay, cy, rfl, hx, fun x h => (by cases h; exact h2 x0 rfl), hR, hO⟩
    | false =>
      rw [hB] at hR
      exact ⟨y, ay, cy, rfl, hx, fun x h => (by cases h), hR, hO⟩
set_option maxRecDepth 100000 in
set_option maxHeartbeats 12800000 in
theorem rfirst14_one {w : World} {R : Nat} {al : Option Addr} {cap : Nat} {L : List Lx.T} {p : Nat} (h : Rdr w R al cap L p false) (hp : p < L.length) (hL : L.length ≤ 1000000000) (hLS : ∀ t ∈ L, t.s.size ≤ maxLen) (r0 : Option X × Nat) (hq : r0.2 ≤ 1000000000) (H0 : ∀ w', Rdr w' R al cap L (p + 1) false → Calls Tryz.prog 21 #[.pointer (some ⟨R, 0, none⟩), .int .i64 0] w' (RdPost R al cap L r0 w')) :
    Calls Tryz.prog 45 #[.pointer (some ⟨R, 0, none⟩)] w (RdPost R al cap L (Sx.fst L p r0) w) := by
  have hA := no_new w
  have HR := Lib.hid (And.intro (rdr_below h hA.2.1) (And.intro hA.1 hA.2.1))
  obtain ⟨c0, c1, c2, c3, c4⟩ := rdr_cells HR.out.1
  have hRlt := rowV_lt h.1
  have hN : R < w.heap.size := hRlt
  have t1 : decide (L.length ≤ p) = false := decide_eq_false (by omega)
  have H00 := Lib.hid H0
  clear h hA H0
  go_enter Tryz.func45, Tryz.ntmps45
  go_wp2_with fail
  generalize hw0 : World.alloc _ _ = w0 at *
  go_quiet (fail)
  have HB : Hid (Below w0.heap.size w0 (w0.drewN nq)) := Lib.hid (below_drewN (Below.refl _ _) nq)
  generalize w0.drewN nq = wq at *
  have HQ := Lib.hid (And.intro (rdr_below HR.out.1 HB.out) (rowV_below HR.out.2.1 HB.out (rowV_lt HR.out.2.1)))
  obtain ⟨d0, d1, d2, d3, d4⟩ := rdr_cells HQ.out.1
  have HF := Lib.hid (And.intro hN HR.out.2.2)
  obtain ⟨b, off, hal, k0, k1, k2, k3⟩ := HQ.out.1.2.1 p hp
  have HT := Lib.hid hal
  rw [hal] at d0
  clear hN c0 c1 c2 c3 c4 hRlt hw0 hal
  generalize hTT : L[p] = T at *
  have HTT := Lib.hid hTT
  clear hTT
  go_wp2_with fail
  have HBq : Hid (Below w.heap.size w wq) := Lib.hid (HF.out.2.trans (HB.out.mono HF.out.2.size))
  refine wp_region_plan (S := fun wx => wx.cell? ⟨R, 0, none⟩ = some (.slice (some ⟨b, off, none⟩) L.length cap) ∧ wx.cell? ⟨R, 1, none⟩ = some (.int .i64 (p : Int)) ∧ wx.cell? ⟨b, off + p * 4, none⟩ = some (.int .i64 T.kind) ∧ wx.cell? ⟨b, off + p * 4 + 1, none⟩ = some (.string T.s) ∧ wx.cell? ⟨b, off + p * 4 + 2, none⟩ = some (.int .i64 T.n) ∧ wx.cell? ⟨b, off + p * 4 + 3, none⟩ = some (.int .i64 T.spot)) 11 [(true, 0), (true, 1), (true, 2), (true, 3), (true, 4), (true, 5), (true, 6), (true, 7), (true, 8), (true, 9), (false, 10)] (by kernel_rfl) (fun _ d _ _ _ h => by cases d <;> exact h) (by kernel_rfl) ⟨d0, d1, k0, k1, k2, k3⟩ ?_
  refine wpPlan_step (i := 0) rfl ⟨(.pointer (some ⟨R, 0, none⟩)), ⟨by rfl, fun wx hSx => ?_⟩, ?_⟩
  · obtain ⟨z0, z1, z2, z3, z4, z5⟩ := hSx
    go_simp
  simp only [Act.put, List.setIfInBounds_toArray, List.set_cons_zero, List.set_cons_succ]
  refine wpPlan_step (i := 1) rfl ⟨(.pointer (some ⟨R, 0, none⟩)), ⟨by rfl, fun wx hSx => ?_⟩, ?_⟩
  · obtain ⟨z0, z1, z2, z3, z4, z5⟩ := hSx
    go_simp
  simp only [Act.put, List.setIfInBounds_toArray, List.set_cons_zero, List.set_cons_succ]
  refine wpPlan_step (i := 2) rfl ⟨(.pointer (some ⟨R, 0, none⟩)), ⟨by rfl, fun wx hSx => ?_⟩, ?_⟩
  · obtain ⟨z0, z1, z2, z3, z4, z5⟩ := hSx
    go_simp
  simp only [Act.put, List.setIfInBounds_toArray, List.set_cons_zero, List.set_cons_succ]
  refine wpPlan_step (i := 3) rfl ⟨(.slice (some ⟨b, off, none⟩) L.length cap), ⟨by rfl, fun wx hSx => ?_⟩, ?_⟩
  · obtain ⟨z0, z1, z2, z3, z4, z5⟩ := hSx
    go_simp
  simp only [Act.put, List.setIfInBounds_toArray, List.set_cons_zero, List.set_cons_succ]
  refine wpPlan_step (i := 4) rfl ⟨(.pointer (some ⟨R, 0, none⟩)), ⟨by rfl, fun wx hSx => ?_⟩, ?_⟩
  · obtain ⟨z0, z1, z2, z3, z4, z5⟩ := hSx
    go_simp
  simp only [Act.put, List.setIfInBounds_toArray, List.set_cons_zero, List.set_cons_succ]
  refine wpPlan_step (i := 5) rfl ⟨(.pointer (some ⟨R, 0, none⟩)), ⟨by rfl, fun wx hSx => ?_⟩, ?_⟩
  · obtain ⟨z0, z1, z2, z3, z4, z5⟩ := hSx
    go_simp
  simp only [Act.put, List.setIfInBounds_toArray, List.set_cons_zero, List.set_cons_succ]
  refine wpPlan_step (i := 6) rfl ⟨(.pointer (some ⟨R, 1, none⟩)), ⟨by rfl, fun wx hSx => ?_⟩, ?_⟩
  · obtain ⟨z0, z1, z2, z3, z4, z5⟩ := hSx
    go_simp
  simp only [Act.put, List.setIfInBounds_toArray, List.set_cons_zero, List.set_cons_succ]
  refine wpPlan_step (i := 7) rfl ⟨(.int .i64 (p : Int)), ⟨by rfl, fun wx hSx => ?_⟩, ?_⟩
  · obtain ⟨z0, z1, z2, z3, z4, z5⟩ := hSx
    go_simp
  simp only [Act.put, List.setIfInBounds_toArray, List.set_cons_zero, List.set_cons_succ]
  refine wpPlan_step (i := 8) rfl ⟨(.pointer (some ⟨b, off + p * 4, none⟩)), ⟨by rfl, fun wx hSx => ?_⟩, ?_⟩
  · obtain ⟨z0, z1, z2, z3, z4, z5⟩ := hSx
    go_simp
  simp only [Act.put, List.setIfInBounds_toArray, List.set_cons_zero, List.set_cons_succ]
  refine wpPlan_step (i := 9) rfl ⟨(tokV T), ⟨by rfl, fun wx hSx => ?_⟩, ?_⟩
  · obtain ⟨z0, z1, z2, z3, z4, z5⟩ := hSx
    go_simp
  simp only [Act.put, List.setIfInBounds_toArray, List.set_cons_zero, List.set_cons_succ]
  have bA : Below wq.heap.size wq (wq.drew.alloc (.cells #[.int .i64 0, .string ⟨#[]⟩, .int .i64 0, .int .i64 0] 45)) := ((Below.refl wq.heap.size wq).drew).alloc (Nat.le_refl _) _
  refine wpPlan_keep (i := 10) rfl (by rfl) fun K hK => wp_alloc14 45 wq.heap.size #[.int .i64 0, .string ⟨#[]⟩, .int .i64 0, .int .i64 0] (by go_simp) (hK _ _ ⟨(bA.cell (World.block_lt_of_cell? _ _ d0)).trans d0, (bA.cell (World.block_lt_of_cell? _ _ d1)).trans d1, (bA.cell (World.block_lt_of_cell? _ _ k0)).trans k0, (bA.cell (World.block_lt_of_cell? _ _ k1)).trans k1, (bA.cell (World.block_lt_of_cell? _ _ k2)).trans k2, (bA.cell (World.block_lt_of_cell? _ _ k3)).trans k3⟩ ?_)
  simp only [Act.put, List.setIfInBounds_toArray, List.set_cons_zero, List.set_cons_succ]
  show wpList _ _ _ _ _ (wq.drew.alloc (.cells #[.int .i64 0, .string ⟨#[]⟩, .int .i64 0, .int .i64 0] 45))
  simp only [List.drop_succ_cons, List.drop_zero]
  refine wpList_store_row rfl 45 (.tmp 3) (.tmp 34) rfl wq.heap.size (tokC T) rfl rfl 45 _ (rowV_new wq.drew 45 [.int .i64 0, .string ⟨#[]⟩, .int .i64 0, .int .i64 0]) info_tok rfl (tok_one14 T) ?_
  have hrow : RowV ((wq.drew.alloc (.cells #[.int .i64 0, .string ⟨#[]⟩, .int .i64 0, .int .i64 0] 45)).setRow wq.heap.size (tokC T)) wq.heap.size 45 (tokC T).toList := rowV_row (rowV_new wq.drew 45 [.int .i64 0, .string ⟨#[]⟩, .int .i64 0, .int .i64 0]) (tokC T).toList
  have hbel : Below wq.heap.size wq ((wq.drew.alloc (.cells #[.int .i64 0, .string ⟨#[]⟩, .int .i64 0, .int .i64 0] 45)).setRow wq.heap.size (tokC T)) := ((Only.of_below bA).setRow (fun h => absurd h (Nat.lt_irrefl _)) (tokC T)).below (fun _ _ h => h) (Nat.le_refl _)
  have hsz2 : ((wq.drew.alloc (.cells #[.int .i64 0, .string ⟨#[]⟩, .int .i64 0, .int .i64 0] 45)).setRow wq.heap.size (tokC T)).heap.size = wq.heap.size + 1 := by simp
  generalize hw2 : World.setRow _ _ _ = w2 at *
  clear hw2 bA d0 d1 d2 d3 d4 k0 k1 k2 k3
  have H2 := Lib.hid (And.intro (rdr_below HQ.out.1 hbel) (And.intro (rowV_below HQ.out.2 hbel (rowV_lt HQ.out.2)) (And.intro hrow (And.intro hsz2 hbel))))
  have hNq : w.heap.size < wq.heap.size := rowV_lt HQ.out.2
  have HOq : Hid (Only (fun k => k = R) w w2) := Lib.hid ((Only.of_none (HBq.out)).more (Only.of_none H2.out.2.2.2.2))
  have hN : R < w.heap.size := HF.out.1
  have hTs : T.s.size ≤ maxLen := by rw [← HTT.out]; exact hLS _ (List.getElem_mem hp)
  have HG := Lib.hid (Sx.fst_eq hp HTT.out r0)
  have HI : Hid (∀ kind s, isT (toksOf L p) kind s = (decide (T.kind = kind) && decide (T.s = Lx.mk s))) := Lib.hid fun kind s => by rw [isT_at hp, HTT.out]
  have hw1 : IntKind.i64.wrap ((p : Int) + 1) = (p : Int) + 1 := IntWalk.i64_in _ (by omega)
  clear hrow hbel
  generalize hN2 : wq.heap.size = N2 at hsz2 H2 hNq ⊢
  generalize hNN : w.heap.size = N at hN H2 hNq ⊢
  have HNN := Lib.hid hNN
  clear hNN hN2 t1
  iterate 16 go_step
  have hall : Below w2.heap.size w2 (w2.alloc (.cells #[.int .i64 1, .int .i64 0, .int .i64 0, .string ⟨#[]⟩, .string ⟨#[]⟩, .slice none 0 0] 29)) := (Below.refl _ _).alloc (Nat.le_refl _) _
  have hrow3 : RowV (w2.alloc (.cells #[.int .i64 1, .int .i64 0, .int .i64 0, .string ⟨#[]⟩, .string ⟨#[]⟩, .slice none 0 0] 29)) w2.heap.size 29 (xC (.mk 1 ⟨0, 0, ⟨#[]⟩⟩ ⟨#[]⟩ []) none 0).toList := rowV_new w2 _ [_, _, _, _, _, _]
  rw [hsz2] at hrow3
  have H : Hid (FstAt w (w2.alloc (.cells #[.int .i64 1, .int .i64 0, .int .i64 0, .string ⟨#[]⟩, .string ⟨#[]⟩, .slice none 0 0] 29)) R N N2 (N2 + 1) al cap L p T (.mk 1 ⟨0, 0, ⟨#[]⟩⟩ ⟨#[]⟩ [])) := Lib.hid ⟨rdr_below H2.out.1 hall, rowV_below H2.out.2.1 hall (rowV_lt H2.out.2.1), rowV_below H2.out.2.2.1 hall (rowV_lt H2.out.2.2.1), hrow3, HOq.out.more (Only.of_none hall)⟩
  clear hall hrow3 H2 HOq HQ HBq HR HB HF HT HTT hp
  generalize hw3 : World.alloc _ _ = w3 at *
  generalize hN3 : N2 + 1 = N3 at *
  have hn1 : ¬ R = N := by omega
  have hn2 : ¬ R = N3 := by omega
  have hn3 : ¬ N = N3 := by omega
  have hn4 : ¬ N2 = N3 := by omega
  have hn5 : ¬ R = N2 := by omega
  have hn6 : ¬ N = N2 := by omega
  have HNS := Lib.hid (show R < N ∧ R < N3 ∧ w.heap.size ≤ N ∧ w.heap.size ≤ N3 by have := HNN.out; omega)
  clear hw3 hsz2 hN3 hN hNq w2
  obtain ⟨d0, d1, d2, d3, d4⟩ := rdr_cells H.out.1
  obtain ⟨k0, k1, k2, k3, _⟩ := tok_cells H.out.2.2.1
  obtain ⟨e0, e1, e2, e3, e4, e5⟩ := x_cells H.out.2.1
  simp only [Nat.zero_add] at e0 e1 e2 e3 e4 e5
  obtain ⟨f0, f1, f2, f3, f4, f5⟩ := x_ice H.out.2.1
  obtain ⟨m0, m1, m2, m3, m4, m5⟩ := x_cells H.out.2.2.2.1
  simp only [Nat.zero_add, Sx.op_mk, Sx.v_mk, Sx.s_mk, Sx.l_mk, List.length_nil] at m0 m1 m2 m3 m4 m5
  obtain ⟨n0, n1, n2, n3, n4, n5⟩ := x_ice H.out.2.2.2.1
  by_cases hk2 : T.kind = 2
  · have q2 : (T.kind == 2) = true := by simp [hk2]
    have HL := Lib.hid (show Sx.leaf T = some (.mk 1 ⟨1, T.n, ⟨#[]⟩⟩ ⟨#[]⟩ []) by unfold Sx.leaf; rw [if_pos hk2])
    clear hk2
    go_wp2_with fail
    have hs := fst_set H.out (Only.setCell (F := fun k => k = N3) (Only.setCell (F := fun k => k = N3) (Only.setCell (F := fun k => k = N3) (Only.refl (fun k => k = N3) w3) (g := N3) (i := 1) (fun _ => rfl) (.int .i64 1)) (g := N3) (i := 2) (fun _ => rfl) (.int .i64 T.n)) (g := N3) (i := 3) (fun _ => rfl) (.string ⟨#[]⟩)) HNS.out hn3
    have HE := fst_ret (w := w) hs.1 hs.2.1 HNS.out.1 HNS.out.2.2.1 hs.2.2 1 1 T.n ⟨#[]⟩ ⟨#[]⟩
    refine bodyPost_ret (v := xV (X.mk 1 ⟨1, T.n, ⟨#[]⟩⟩ ⟨#[]⟩ []) none 0) (results_x (p := 2) rfl _ _ N (X.mk 1 ⟨1, T.n, ⟨#[]⟩⟩ ⟨#[]⟩ []) none 0 rfl HE.1) rfl ?_
    rw [HG.out, HL.out]; exact HE.2
  · have q2 : (T.kind == 2) = false := by simpa using hk2
    by_cases hk3 : T.kind = 3
    · have q3 : (T.kind == 3) = true := by simp [hk3]
      have HL := Lib.hid (show Sx.leaf T = some (.mk 1 ⟨2, 0, T.s⟩ ⟨#[]⟩ []) by unfold Sx.leaf; rw [if_neg hk2, if_pos hk3])
      clear hk2 hk3
      go_wp2_with fail
      have hs := fst_set H.out (Only.setCell (F := fun k => k = N3) (Only.setCell (F := fun k => k = N3) (Only.setCell (F := fun k => k = N3) (Only.refl (fun k => k = N3) w3) (g := N3) (i := 1) (fun _ => rfl) (.int .i64 2)) (g := N3) (i := 2) (fun _ => rfl) (.int .i64 0)) (g := N3) (i := 3) (fun _ => rfl) (.string T.s)) HNS.out hn3
      have HE := fst_ret (w := w) hs.1 hs.2.1 HNS.out.1 HNS.out.2.2.1 hs.2.2 1 2 0 T.s ⟨#[]⟩
      refine bodyPost_ret (v := xV (X.mk 1 ⟨2, 0, T.s⟩ ⟨#[]⟩ []) none 0) (results_x (p := 2) rfl _ _ N (X.mk 1 ⟨2, 0, T.s⟩ ⟨#[]⟩ []) none 0 rfl HE.1) rfl ?_
      rw [HG.out, HL.out]; exact HE.2
    · have q3 : (T.kind == 3) = false := by simpa using hk3
      have hi0 := HI.out 1 [110, 117, 108, 108]
      cases hB0 : (decide (T.kind = 1) && decide (T.s = Lx.mk [110, 117, 108, 108])) with
      | true =>
        have HL := Lib.hid (Sx.lf_null hB0)
        rw [hB0] at hi0
        have HC := Lib.hid (And.intro (fst_is (w := w) (R := R) (N := N) (N2 := N2) (N3 := N3) (al := al) (cap := cap) (T := T) (x := .mk 1 ⟨0, 0, ⟨#[]⟩⟩ ⟨#[]⟩ []) 1 [110, 117, 108, 108] hi0) (True.intro))
        clear hk2 hk3 hB0 hi0
        go_wp2_with (go_at_call 46; refine (HC.out.1 _ H.out).mono ?_; rintro e w5 ⟨rfl, hF⟩; clear d0 d1 d2 d3 d4 k0 k1 k2 k3 e0 e1 e2 e3 e4 e5 f0 f1 f2 f3 f4 f5 m0 m1 m2 m3 m4 m5 n0 n1 n2 n3 n4 n5; have H := Lib.hid hF; clear hF; have HC := Lib.hid HC.out.2; obtain ⟨d0, d1, d2, d3, d4⟩ := rdr_cells H.out.1; obtain ⟨k0, k1, k2, k3, _⟩ := tok_cells H.out.2.2.1; obtain ⟨e0, e1, e2, e3, e4, e5⟩ := x_cells H.out.2.1; simp only [Nat.zero_add] at e0 e1 e2 e3 e4 e5; obtain ⟨f0, f1, f2, f3, f4, f5⟩ := x_ice H.out.2.1; obtain ⟨m0, m1, m2, m3, m4, m5⟩ := x_cells H.out.2.2.2.1; simp only [Nat.zero_add, Sx.op_mk, Sx.v_mk, Sx.s_mk, Sx.l_mk, List.length_nil] at m0 m1 m2 m3 m4 m5; obtain ⟨n0, n1, n2, n3, n4, n5⟩ := x_ice H.out.2.2.2.1)
        have hs := fst_set H.out (Only.refl (fun k => k = N3) w5) HNS.out hn3
        have HE := fst_ret (w := w) hs.1 hs.2.1 HNS.out.1 HNS.out.2.2.1 hs.2.2 1 0 0 ⟨#[]⟩ ⟨#[]⟩
        refine bodyPost_ret (v := xV (X.mk 1 ⟨0, 0, ⟨#[]⟩⟩ ⟨#[]⟩ []) none 0) (results_x (p := 2) rfl _ _ N (X.mk 1 ⟨0, 0, ⟨#[]⟩⟩ ⟨#[]⟩ []) none 0 rfl HE.1) rfl ?_
        rw [HG.out, HL.out]; exact HE.2
      | false =>
        rw [hB0] at hi0
        have hi1 := HI.out 1 [116, 114, 117, 101]
        cases hB1 : (decide (T.kind = 1) && decide (T.s = Lx.mk [116, 114, 117, 101])) with
        | true =>
          have HL := Lib.hid (Sx.lf_true hB1)
          rw [hB1] at hi1
          have HC := Lib.hid (And.intro (fst_is (w := w) (R := R) (N := N) (N2 := N2) (N3 := N3) (al := al) (cap := cap) (T := T) (x := .mk 1 ⟨0, 0, ⟨#[]⟩⟩ ⟨#[]⟩ []) 1 [110, 117, 108, 108] hi0) (And.intro (fst_is (w := w) (R := R) (N := N) (N2 := N2) (N3 := N3) (al := al) (cap := cap) (T := T) (x := .mk 1 ⟨0, 0, ⟨#[]⟩⟩ ⟨#[]⟩ []) 1 [116, 114, 117, 101] hi1) (True.intro)))
          clear hk2 hk3 hB0 hi0 hB1 hi1
          go_wp2_with (go_at_call 46; refine (HC.out.1 _ H.out).mono ?_; rintro e w5 ⟨rfl, hF⟩; clear d0 d1 d2 d3 d4 k0 k1 k2 k3 e0 e1 e2 e3 e4 e5 f0 f1 f2 f3 f4 f5 m0 m1 m2 m3 m4 m5 n0 n1 n2 n3 n4 n5; have H := Lib.hid hF; clear hF; have HC := Lib.hid HC.out.2; obtain ⟨d0, d1, d2, d3, d4⟩ := rdr_cells H.out.1; obtain ⟨k0, k1, k2, k3, _⟩ := tok_cells H.out.2.2.1; obtain ⟨e0, e1, e2, e3, e4, e5⟩ := x_cells H.out.2.1; simp only [Nat.zero_add] at e0 e1 e2 e3 e4 e5; obtain ⟨f0, f1, f2, f3, f4, f5⟩ := x_ice H.out.2.1; obtain ⟨m0, m1, m2, m3, m4, m5⟩ := x_cells H.out.2.2.2.1; simp only [Nat.zero_add, Sx.op_mk, Sx.v_mk, Sx.s_mk, Sx.l_mk, List.length_nil] at m0 m1 m2 m3 m4 m5; obtain ⟨n0, n1, n2, n3, n4, n5⟩ := x_ice H.out.2.2.2.1)
          have hs := fst_set H.out (Only.setCell (F := fun k => k = N3) (Only.setCell (F := fun k => k = N3) (Only.setCell (F := fun k => k = N3) (Only.refl (fun k => k = N3) w5) (g := N3) (i := 1) (fun _ => rfl) (.int .i64 3)) (g := N3) (i := 2) (fun _ => rfl) (.int .i64 1)) (g := N3) (i := 3) (fun _ => rfl) (.string ⟨#[]⟩)) HNS.out hn3
          have HE := fst_ret (w := w) hs.1 hs.2.1 HNS.out.1 HNS.out.2.2.1 hs.2.2 1 3 1 ⟨#[]⟩ ⟨#[]⟩
          refine bodyPost_ret (v := xV (X.mk 1 ⟨3, 1, ⟨#[]⟩⟩ ⟨#[]⟩ []) none 0) (results_x (p := 2) rfl _ _ N (X.mk 1 ⟨3, 1, ⟨#[]⟩⟩ ⟨#[]⟩ []) none 0 rfl HE.1) rfl ?_
          rw [HG.out, HL.out]; exact HE.2
        | false =>
          rw [hB1] at hi1
          have hi2 := HI.out 1 [102, 97, 108, 115, 101]
          cases hB2 : (decide (T.kind = 1) && decide (T.s = Lx.mk [102, 97, 108, 115, 101])) with
          | true =>
            have HL := Lib.hid (Sx.lf_false hB2)
            rw [hB2] at hi2
            have HC := Lib.hid (And.intro (fst_is (w := w) (R := R) (N := N) (N2 := N2) (N3 := N3) (al := al) (cap := cap) (T := T) (x := .mk 1 ⟨0, 0, ⟨#[]⟩⟩ ⟨#[]⟩ []) 1 [110, 117, 108, 108] hi0) (And.intro (fst_is (w := w) (R := R) (N := N) (N2 := N2) (N3 := N3) (al := al) (cap := cap) (T := T) (x := .mk 1 ⟨0, 0, ⟨#[]⟩⟩ ⟨#[]⟩ []) 1 [116, 114, 117, 101] hi1) (And.intro (fst_is (w := w) (R := R) (N := N) (N2 := N2) (N3 := N3) (al := al) (cap := cap) (T := T) (x := .mk 1 ⟨0, 0, ⟨#[]⟩⟩ ⟨#[]⟩ []) 1 [102, 97, 108, 115, 101] hi2) (True.intro))))
            clear hk2 hk3 hB0 hi0 hB1 hi1 hB2 hi2
            go_wp2_with (go_at_call 46; refine (HC.out.1 _ H.out).mono ?_; rintro e w5 ⟨rfl, hF⟩; clear d0 d1 d2 d3 d4 k0 k1 k2 k3 e0 e1 e2 e3 e4 e5 f0 f1 f2 f3 f4 f5 m0 m1 m2 m3 m4 m5 n0 n1 n2 n3 n4 n5; have H := Lib.hid hF; clear hF; have HC := Lib.hid HC.out.2; obtain ⟨d0, d1, d2, d3, d4⟩ := rdr_cells H.out.1; obtain ⟨k0, k1, k2, k3, _⟩ := tok_cells H.out.2.2.1; obtain ⟨e0, e1, e2, e3, e4, e5⟩ := x_cells H.out.2.1; simp only [Nat.zero_add] at e0 e1 e2 e3 e4 e5; obtain ⟨f0, f1, f2, f3, f4, f5⟩ := x_ice H.out.2.1; obtain ⟨m0, m1, m2, m3, m4, m5⟩ := x_cells H.out.2.2.2.1; simp only [Nat.zero_add, Sx.op_mk, Sx.v_mk, Sx.s_mk, Sx.l_mk, List.length_nil] at m0 m1 m2 m3 m4 m5; obtain ⟨n0, n1, n2, n3, n4, n5⟩ := x_ice H.out.2.2.2.1)
            have hs := fst_set H.out (Only.setCell (F := fun k => k = N3) (Only.setCell (F := fun k => k = N3) (Only.setCell (F := fun k => k = N3) (Only.refl (fun k => k = N3) w5) (g := N3) (i := 1) (fun _ => rfl) (.int .i64 3)) (g := N3) (i := 2) (fun _ => rfl) (.int .i64 0)) (g := N3) (i := 3) (fun _ => rfl) (.string ⟨#[]⟩)) HNS.out hn3
            have HE := fst_ret (w := w) hs.1 hs.2.1 HNS.out.1 HNS.out.2.2.1 hs.2.2 1 3 0 ⟨#[]⟩ ⟨#[]⟩
            refine bodyPost_ret (v := xV (X.mk 1 ⟨3, 0, ⟨#[]⟩⟩ ⟨#[]⟩ []) none 0) (results_x (p := 2) rfl _ _ N (X.mk 1 ⟨3, 0, ⟨#[]⟩⟩ ⟨#[]⟩ []) none 0 rfl HE.1) rfl ?_
            rw [HG.out, HL.out]; exact HE.2
          | false =>
            rw [hB2] at hi2
            have hi3 := HI.out 4 [40]
            by_cases hk1 : T.kind = 1
            · have q1 : (T.kind == 1) = true := by simp [hk1]
              have hl := Sx.lf_word hB0 hB1 hB2 hk1
              have hi4 : isT (toksOf L p) 4 [40] = false := by rw [hi3, decide_eq_false (by omega)]; rfl
              have cN := fun wx => rNameB13_any T.s wx hTs
              cases hNB : Lx.nameB T.s with
              | true =>
                rw [hNB] at hl cN
                have HL := Lib.hid (show Sx.leaf T = some (.mk 2 ⟨0, 0, ⟨#[]⟩⟩ T.s []) from hl)
                have HNM := Lib.hid cN
                have HC := Lib.hid (And.intro (fst_is (w := w) (R := R) (N := N) (N2 := N2) (N3 := N3) (al := al) (cap := cap) (T := T) (x := .mk 1 ⟨0, 0, ⟨#[]⟩⟩ ⟨#[]⟩ []) 1 [110, 117, 108, 108] hi0) (And.intro (fst_is (w := w) (R := R) (N := N) (N2 := N2) (N3 := N3) (al := al) (cap := cap) (T := T) (x := .mk 1 ⟨0, 0, ⟨#[]⟩⟩ ⟨#[]⟩ []) 1 [116, 114, 117, 101] hi1) (And.intro (fst_is (w := w) (R := R) (N := N) (N2 := N2) (N3 := N3) (al := al) (cap := cap) (T := T) (x := .mk 1 ⟨0, 0, ⟨#[]⟩⟩ ⟨#[]⟩ []) 1 [102, 97, 108, 115, 101] hi2) (True.intro))))
                clear hk1 hk2 hk3 hB0 hB1 hB2 hi0 hi1 hi2 hi3 hi4 hl cN hNB
                go_wp2_with (first | (go_at_call 46; refine (HC.out.1 _ H.out).mono ?_; rintro e w5 ⟨rfl, hF⟩; clear d0 d1 d2 d3 d4 k0 k1 k2 k3 e0 e1 e2 e3 e4 e5 f0 f1 f2 f3 f4 f5 m0 m1 m2 m3 m4 m5 n0 n1 n2 n3 n4 n5; have H := Lib.hid hF; clear hF; have HC := Lib.hid HC.out.2; obtain ⟨d0, d1, d2, d3, d4⟩ := rdr_cells H.out.1; obtain ⟨k0, k1, k2, k3, _⟩ := tok_cells H.out.2.2.1; obtain ⟨e0, e1, e2, e3, e4, e5⟩ := x_cells H.out.2.1; simp only [Nat.zero_add] at e0 e1 e2 e3 e4 e5; obtain ⟨f0, f1, f2, f3, f4, f5⟩ := x_ice H.out.2.1; obtain ⟨m0, m1, m2, m3, m4, m5⟩ := x_cells H.out.2.2.2.1; simp only [Nat.zero_add, Sx.op_mk, Sx.v_mk, Sx.s_mk, Sx.l_mk, List.length_nil] at m0 m1 m2 m3 m4 m5; obtain ⟨n0, n1, n2, n3, n4, n5⟩ := x_ice H.out.2.2.2.1) | (go_at_call 70; refine (HNM.out _).mono ?_; rintro e w5 ⟨rfl, hb5⟩; clear d0 d1 d2 d3 d4 k0 k1 k2 k3 e0 e1 e2 e3 e4 e5 f0 f1 f2 f3 f4 f5 m0 m1 m2 m3 m4 m5 n0 n1 n2 n3 n4 n5; have H := Lib.hid (fst_below H.out hb5); clear hb5; obtain ⟨d0, d1, d2, d3, d4⟩ := rdr_cells H.out.1; obtain ⟨k0, k1, k2, k3, _⟩ := tok_cells H.out.2.2.1; obtain ⟨e0, e1, e2, e3, e4, e5⟩ := x_cells H.out.2.1; simp only [Nat.zero_add] at e0 e1 e2 e3 e4 e5; obtain ⟨f0, f1, f2, f3, f4, f5⟩ := x_ice H.out.2.1; obtain ⟨m0, m1, m2, m3, m4, m5⟩ := x_cells H.out.2.2.2.1; simp only [Nat.zero_add, Sx.op_mk, Sx.v_mk, Sx.s_mk, Sx.l_mk, List.length_nil] at m0 m1 m2 m3 m4 m5; obtain ⟨n0, n1, n2, n3, n4, n5⟩ := x_ice H.out.2.2.2.1))
                have hs := fst_set H.out (Only.setCell (F := fun k => k = N3) (Only.setCell (F := fun k => k = N3) (Only.setCell (F := fun k => k = N3) (Only.setCell (F := fun k => k = N3) (Only.setCell (F := fun k => k = N3) (Only.setCell (F := fun k => k = N3) (Only.refl (fun k => k = N3) w5) (g := N3) (i := 0) (fun _ => rfl) (.int .i64 2)) (g := N3) (i := 1) (fun _ => rfl) (.int .i64 0)) (g := N3) (i := 2) (fun _ => rfl) (.int .i64 0)) (g := N3) (i := 3) (fun _ => rfl) (.string ⟨#[]⟩)) (g := N3) (i := 4) (fun _ => rfl) (.string T.s)) (g := N3) (i := 5) (fun _ => rfl) (.slice none 0 0)) HNS.out hn3
                have HE := fst_ret (w := w) hs.1 hs.2.1 HNS.out.1 HNS.out.2.2.1 hs.2.2 2 0 0 ⟨#[]⟩ T.s
                refine bodyPost_ret (v := xV (X.mk 2 ⟨0, 0, ⟨#[]⟩⟩ T.s []) none 0) (results_x (p := 2) rfl _ _ N (X.mk 2 ⟨0, 0, ⟨#[]⟩⟩ T.s []) none 0 rfl HE.1) rfl ?_
                rw [HG.out, HL.out]; exact HE.2
              | false =>
                rw [hNB] at hl cN
                have HL := Lib.hid (show Sx.leaf T = none from hl)
                have HNM := Lib.hid cN
                have HF4 := Lib.hid hi4
                have HC := Lib.hid (And.intro (fst_is (w := w) (R := R) (N := N) (N2 := N2) (N3 := N3) (al := al) (cap := cap) (T := T) (x := .mk 1 ⟨0, 0, ⟨#[]⟩⟩ ⟨#[]⟩ []) 1 [110, 117, 108, 108] hi0) (And.intro (fst_is (w := w) (R := R) (N := N) (N2 := N2) (N3 := N3) (al := al) (cap := cap) (T := T) (x := .mk 1 ⟨0, 0, ⟨#[]⟩⟩ ⟨#[]⟩ []) 1 [116, 114, 117, 101] hi1) (And.intro (fst_is (w := w) (R := R) (N := N) (N2 := N2) (N3 := N3) (al := al) (cap := cap) (T := T) (x := .mk 1 ⟨0, 0, ⟨#[]⟩⟩ ⟨#[]⟩ []) 1 [102, 97, 108, 115, 101] hi2) (And.intro (fst_is (w := w) (R := R) (N := N) (N2 := N2) (N3 := N3) (al := al) (cap := cap) (T := T) (x := .mk 1 ⟨0, 0, ⟨#[]⟩⟩ ⟨#[]⟩ []) 4 [40] hi4) (True.intro)))))
                clear hk1 hk2 hk3 hB0 hB1 hB2 hi0 hi1 hi2 hi3 hi4 hl cN hNB
                go_wp2_with (first | (go_at_call 46; refine (HC.out.1 _ H.out).mono ?_; rintro e w5 ⟨rfl, hF⟩; clear d0 d1 d2 d3 d4 k0 k1 k2 k3 e0 e1 e2 e3 e4 e5 f0 f1 f2 f3 f4 f5 m0 m1 m2 m3 m4 m5 n0 n1 n2 n3 n4 n5; have H := Lib.hid hF; clear hF; have HC := Lib.hid HC.out.2; obtain ⟨d0, d1, d2, d3, d4⟩ := rdr_cells H.out.1; obtain ⟨k0, k1, k2, k3, _⟩ := tok_cells H.out.2.2.1; obtain ⟨e0, e1, e2, e3, e4, e5⟩ := x_cells H.out.2.1; simp only [Nat.zero_add] at e0 e1 e2 e3 e4 e5; obtain ⟨f0, f1, f2, f3, f4, f5⟩ := x_ice H.out.2.1; obtain ⟨m0, m1, m2, m3, m4, m5⟩ := x_cells H.out.2.2.2.1; simp only [Nat.zero_add, Sx.op_mk, Sx.v_mk, Sx.s_mk, Sx.l_mk, List.length_nil] at m0 m1 m2 m3 m4 m5; obtain ⟨n0, n1, n2, n3, n4, n5⟩ := x_ice H.out.2.2.2.1) | (go_at_call 70; refine (HNM.out _).mono ?_; rintro e w5 ⟨rfl, hb5⟩; clear d0 d1 d2 d3 d4 k0 k1 k2 k3 e0 e1 e2 e3 e4 e5 f0 f1 f2 f3 f4 f5 m0 m1 m2 m3 m4 m5 n0 n1 n2 n3 n4 n5; have H := Lib.hid (fst_below H.out hb5); clear hb5; obtain ⟨d0, d1, d2, d3, d4⟩ := rdr_cells H.out.1; obtain ⟨k0, k1, k2, k3, _⟩ := tok_cells H.out.2.2.1; obtain ⟨e0, e1, e2, e3, e4, e5⟩ := x_cells H.out.2.1; simp only [Nat.zero_add] at e0 e1 e2 e3 e4 e5; obtain ⟨f0, f1, f2, f3, f4, f5⟩ := x_ice H.out.2.1; obtain ⟨m0, m1, m2, m3, m4, m5⟩ := x_cells H.out.2.2.2.1; simp only [Nat.zero_add, Sx.op_mk, Sx.v_mk, Sx.s_mk, Sx.l_mk, List.length_nil] at m0 m1 m2 m3 m4 m5; obtain ⟨n0, n1, n2, n3, n4, n5⟩ := x_ice H.out.2.2.2.1))
                have HE := fst_bad (w := w) H.out.1 H.out.2.1 HNS.out.1 HNS.out.2.2.1 H.out.2.2.2.2
                refine bodyPost_ret (v := xV Sx.no none 0) (results_x (p := 2) rfl _ _ N Sx.no none 0 rfl HE.1) rfl ?_
                rw [HG.out, HL.out]; rw [if_neg (by rw [HF4.out]; exact Bool.false_ne_true)]; exact HE.2
            · have q1 : (T.kind == 1) = false := by simpa using hk1
              have HL := Lib.hid (Sx.lf_other hk1 hk2 hk3)
              cases hB3 : isT (toksOf L p) 4 [40] with
              | false =>
                have HF4 := Lib.hid hB3
                have HC := Lib.hid (And.intro (fst_is (w := w) (R := R) (N := N) (N2 := N2) (N3 := N3) (al := al) (cap := cap) (T := T) (x := .mk 1 ⟨0, 0, ⟨#[]⟩⟩ ⟨#[]⟩ []) 1 [110, 117, 108, 108] hi0) (And.intro (fst_is (w := w) (R := R) (N := N) (N2 := N2) (N3 := N3) (al := al) (cap := cap) (T := T) (x := .mk 1 ⟨0, 0, ⟨#[]⟩⟩ ⟨#[]⟩ []) 1 [116, 114, 117, 101] hi1) (And.intro (fst_is (w := w) (R := R) (N := N) (N2 := N2) (N3 := N3) (al := al) (cap := cap) (T := T) (x := .mk 1 ⟨0, 0, ⟨#[]⟩⟩ ⟨#[]⟩ []) 1 [102, 97, 108, 115, 101] hi2) (And.intro (fst_is (w := w) (R := R) (N := N) (N2 := N2) (N3 := N3) (al := al) (cap := cap) (T := T) (x := .mk 1 ⟨0, 0, ⟨#[]⟩⟩ ⟨#[]⟩ []) 4 [40] hB3) (True.intro)))))
                clear hk1 hk2 hk3 hB0 hB1 hB2 hi0 hi1 hi2 hi3 hB3
                go_wp2_with (go_at_call 46; refine (HC.out.1 _ H.out).mono ?_; rintro e w5 ⟨rfl, hF⟩; clear d0 d1 d2 d3 d4 k0 k1 k2 k3 e0 e1 e2 e3 e4 e5 f0 f1 f2 f3 f4 f5 m0 m1 m2 m3 m4 m5 n0 n1 n2 n3 n4 n5; have H := Lib.hid hF; clear hF; have HC := Lib.hid HC.out.2; obtain ⟨d0, d1, d2, d3, d4⟩ := rdr_cells H.out.1; obtain ⟨k0, k1, k2, k3, _⟩ := tok_cells H.out.2.2.1; obtain ⟨e0, e1, e2, e3, e4, e5⟩ := x_cells H.out.2.1; simp only [Nat.zero_add] at e0 e1 e2 e3 e4 e5; obtain ⟨f0, f1, f2, f3, f4, f5⟩ := x_ice H.out.2.1; obtain ⟨m0, m1, m2, m3, m4, m5⟩ := x_cells H.out.2.2.2.1; simp only [Nat.zero_add, Sx.op_mk, Sx.v_mk, Sx.s_mk, Sx.l_mk, List.length_nil] at m0 m1 m2 m3 m4 m5; obtain ⟨n0, n1, n2, n3, n4, n5⟩ := x_ice H.out.2.2.2.1)
                have HE := fst_bad (w := w) H.out.1 H.out.2.1 HNS.out.1 HNS.out.2.2.1 H.out.2.2.2.2
                refine bodyPost_ret (v := xV Sx.no none 0) (results_x (p := 2) rfl _ _ N Sx.no none 0 rfl HE.1) rfl ?_
                rw [HG.out, HL.out]; rw [if_neg (by rw [HF4.out]; exact Bool.false_ne_true)]; exact HE.2
              | true =>
                have HT4 := Lib.hid hB3
                have HC := Lib.hid (And.intro (fst_is (w := w) (R := R) (N := N) (N2 := N2) (N3 := N3) (al := al) (cap := cap) (T := T) (x := .mk 1 ⟨0, 0, ⟨#[]⟩⟩ ⟨#[]⟩ []) 1 [110, 117, 108, 108] hi0) (And.intro (fst_is (w := w) (R := R) (N := N) (N2 := N2) (N3 := N3) (al := al) (cap := cap) (T := T) (x := .mk 1 ⟨0, 0, ⟨#[]⟩⟩ ⟨#[]⟩ []) 1 [116, 114, 117, 101] hi1) (And.intro (fst_is (w := w) (R := R) (N := N) (N2 := N2) (N3 := N3) (al := al) (cap := cap) (T := T) (x := .mk 1 ⟨0, 0, ⟨#[]⟩⟩ ⟨#[]⟩ []) 1 [102, 97, 108, 115, 101] hi2) (And.intro (fst_is (w := w) (R := R) (N := N) (N2 := N2) (N3 := N3) (al := al) (cap := cap) (T := T) (x := .mk 1 ⟨0, 0, ⟨#[]⟩⟩ ⟨#[]⟩ []) 4 [40] hB3) (True.intro)))))
                obtain ⟨ro, q⟩ := r0
                simp only at hq
                clear hk1 hk2 hk3 hB0 hB1 hB2 hi0 hi1 hi2 hi3 hB3
                go_wp2_with (first | (go_at_call 46; refine (HC.out.1 _ H.out).mono ?_; rintro e w5 ⟨rfl, hF⟩; clear d0 d1 d2 d3 d4 k0 k1 k2 k3 e0 e1 e2 e3 e4 e5 f0 f1 f2 f3 f4 f5 m0 m1 m2 m3 m4 m5 n0 n1 n2 n3 n4 n5; have H := Lib.hid hF; clear hF; have HC := Lib.hid HC.out.2; obtain ⟨d0, d1, d2, d3, d4⟩ := rdr_cells H.out.1; obtain ⟨k0, k1, k2, k3, _⟩ := tok_cells H.out.2.2.1; obtain ⟨e0, e1, e2, e3, e4, e5⟩ := x_cells H.out.2.1; simp only [Nat.zero_add] at e0 e1 e2 e3 e4 e5; obtain ⟨f0, f1, f2, f3, f4, f5⟩ := x_ice H.out.2.1; obtain ⟨m0, m1, m2, m3, m4, m5⟩ := x_cells H.out.2.2.2.1; simp only [Nat.zero_add, Sx.op_mk, Sx.v_mk, Sx.s_mk, Sx.l_mk, List.length_nil] at m0 m1 m2 m3 m4 m5; obtain ⟨n0, n1, n2, n3, n4, n5⟩ := x_ice H.out.2.2.2.1) | (go_at_call 21; refine (H00.out _ (rdr_at H.out.1 (p + 1)).1).mono ?_; rintro e w6 ⟨y, ay, cy, rfl, hxy, hsm, hR6, ho6⟩; have H6 := Lib.hid (fst_read H.out HNS.out hxy hsm hR6 ho6); clear hxy hsm hR6 ho6; clear d0 d1 d2 d3 d4 k0 k1 k2 k3 e0 e1 e2 e3 e4 e5 f0 f1 f2 f3 f4 f5 m0 m1 m2 m3 m4 m5 n0 n1 n2 n3 n4 n5; obtain ⟨m0, m1, m2, m3, m4, m5⟩ := x_cells H6.out.2.2.2.2.1; obtain ⟨n0, n1, n2, n3, n4, n5⟩ := x_ice H6.out.2.2.2.2.1; simp only [Nat.zero_add] at m0 m1 m2 m3 m4 m5) | (go_at_call 47; refine (rtake14_any (rdr_put H6.out.2.2.1 HNS.out.2.1 ((x_put H6.out.2.2.2.2.1 y.op y.v.kind y.v.n y.v.s y.s ay y.l.length cy).2 (fun k => k = N3) rfl)) hq 4 [41]).mono ?_; rintro e w7 ⟨rfl, hR7, ho7⟩; have H7 := Lib.hid (fst_take H6.out HNS.out hn3 hR7 ho7); clear hR7 ho7 m0 m1 m2 m3 m4 m5 n0 n1 n2 n3 n4 n5; obtain ⟨m0, m1, m2, m3, m4, m5⟩ := x_cells H7.out.2.2.2.1; simp only [Nat.zero_add] at m0 m1 m2 m3 m4 m5; obtain ⟨e0, e1, e2, e3, e4, e5⟩ := x_cells H7.out.2.2.1; simp only [Nat.zero_add] at e0 e1 e2 e3 e4 e5; obtain ⟨f0, f1, f2, f3, f4, f5⟩ := x_ice H7.out.2.2.1))
                have hE := x_put H7.out.2.2.1 y.op y.v.kind y.v.n y.v.s y.s ay y.l.length cy
                refine bodyPost_ret (v := xV y ay cy) (results_x (p := 2) rfl _ _ N y ay cy rfl hE.1) rfl ?_
                rw [HG.out, HL.out]
                rw [if_pos HT4.out]
                exact fst_end H7.out HNS.out (hE.2 (fun k => k = N) rfl)
end Go.Proofs.YtekahmlppaabjaaGreatDoor

/-
  A region that draws its order, walked in a plan of two stages: behind the first stage, for which all the others wait, another condition on the world holds. One walk.
-/
namespace Go.Proofs.YtekahmlppaabjaaGreatDoor
open Go.RowKit
section
variable {P : Program} {ops : Array Oper} {md : Region.Mode} {S : World → Prop} {Q : Exit → Act → World → Prop}
/-- each operation behind n waits for one from n on -/
def treeB (md : Region.Mode) (ops : Array Oper) (n : Nat) : Bool :=
  (List.range ops.size).all fun t => decide (t ≤ n) || (List.range t).any fun u => decide (n ≤ u) && Region.waitsFor md ops t u
theorem tail_waits2 {n : Nat} {listed : Array Bool} (hs : Region.sinkB md ops n = true) (hc : treeB md ops n = true) (hn : n < ops.size) (inv : HeadInv md ops n listed) :
    ∀ (i : Nat), i < n → listed.getD i true = false → ∀ t, n ≤ t → t ∉ Region.ready md ops listed := by
  have hun : ∀ u, n ≤ u → u < ops.size → listed.getD u false = false := fun u h1 h2 => getD_both (inv.tail u h1 h2)
  have atn : ∀ (d i : Nat), n - i = d → i < n → listed.getD i true = false → n ∉ Region.ready md ops listed := by
    intro d
    induction d using Nat.strongRecOn with
    | _ d ih =>
      intro i hd hi hui hr
      obtain ⟨_, ot, hot, hall⟩ := mem_ready.1 hr
      obtain ⟨j, hj, hj2⟩ := List.any_eq_true.1 (List.all_eq_true.1 hs i (List.mem_range.2 hi))
      simp only [Bool.and_eq_true, decide_eq_true_eq] at hj2
      obtain ⟨oj, hoj, e, he, hb, hon⟩ := Region.waitsFor_spec hj2.2
      have hjle := List.mem_range.1 hj
      by_cases hjt : j = n
      · subst hjt
        obtain rfl : oj = ot := Option.some.inj (hoj.symm.trans hot)
        have h2 := hall e he hb
        rw [hon, getD_both hui] at h2
        cases h2
      · cases hl : listed.getD j false with
        | true =>
          have h2 := inv.closed j oj hoj hl e he hb
          rw [hon, getD_both hui] at h2
          cases h2
        | false =>
          exact ih (n - j) (by omega) j rfl (by omega) (getD_in (by rw [inv.size]; omega) hl) hr
  intro i hi hui t ht hr
  by_cases htn : t = n
  · subst htn; exact atn _ i rfl hi hui hr
  · obtain ⟨_, ot, hot, hall⟩ := mem_ready.1 hr
    have htlt : t < ops.size := (Array.getElem?_eq_some_iff.1 hot).1
    have h1 := List.all_eq_true.1 hc t (List.mem_range.2 htlt)
    rw [Bool.or_eq_true] at h1
    rcases h1 with h1 | h1
    · have := of_decide_eq_true h1; omega
    · obtain ⟨u, hu, hu2⟩ := List.any_eq_true.1 h1
      simp only [Bool.and_eq_true, decide_eq_true_eq] at hu2
      obtain ⟨oj, hoj, e, he, hb, hon⟩ := Region.waitsFor_spec hu2.2
      obtain rfl : oj = ot := Option.some.inj (hoj.symm.trans hot)
      have h2 := hall e he hb
      have hult := List.mem_range.1 hu
      rw [hon, hun u hu2.1 (by omega)] at h2
      cases h2
theorem headH_first2 {n i : Nat} {oi : Oper} {v : Value} {L : Array Bool → Act → World → Prop} (hi : ops[i]? = some oi) (hsel : ∀ (j : Nat) (o : Oper) cs b, ops[j]? = some o → o.op ≠ .select cs b)
    (hQ : ∀ c a w, Q (.panic c) (a.put oi.dst v) w → Q (.panic c) a w)
    (htw : ∀ listed, HeadInv md ops n listed → ∀ i, i < n → listed.getD i true = false → ∀ t, n ≤ t → t ∉ Region.ready md ops listed) (hin : i < n) (hdone : ∀ listed a w, L listed a w → ∀ j ∈ Region.ready md ops listed, n ≤ j) :
    ∀ (f : Nat) (listed : Array Bool) (a : Act) (w : World), HeadInv md ops n listed →
      (∀ j oj, ops[j]? = some oj → j ≠ i → listed.getD j true = false → (∀ e ∈ oj.after, Region.binds md e = true → e.on ≠ i) → oi.apart ops oj = true) →
      i ∈ Region.ready md ops listed → YieldsIf P ops S oi v a → S w → HeadH P md ops S Q n L f (listed.setIfInBounds i true) (a.put oi.dst v) w → HeadH P md ops S Q n L (f + 1) listed a w := by
  intro f
  induction f with
  | zero =>
    intro listed a w inv _ hr hy hS H
    have hun := (mem_ready.1 hr).1
    refine ⟨fun h => (by rw [h] at hr; cases hr), fun j hj => ?_⟩
    have hjn : j < n := Nat.lt_of_not_le fun h => absurd hj (htw _ inv i hin hun j h)
    refine ⟨hjn, ?_⟩
    by_cases hji : j = i
    · subst hji; exact hy.wpOp hi hS ⟨hS, H⟩
    · have := hdone _ _ _ H j (ready_mono hj hji)
      omega
  | succ f ih =>
    intro listed a w inv hfree hr hy hS H
    have hun := (mem_ready.1 hr).1
    refine ⟨fun h => (by rw [h] at hr; cases hr), fun j hj => ?_⟩
    have hjn : j < n := Nat.lt_of_not_le fun h => absurd hj (htw _ inv i hin hun j h)
    refine ⟨hjn, ?_⟩
    by_cases hji : j = i
    · subst hji; exact hy.wpOp hi hS ⟨hS, H⟩
    · have h1 := (H.2 j (ready_mono hj hji)).2
      obtain ⟨hjun, oj, hoj, hall⟩ := mem_ready.1 hj
      have hnot : ∀ e ∈ oj.after, Region.binds md e = true → e.on ≠ i := fun e he hb heq => by
        have h2 := hall e he hb
        rw [heq, getD_both hun] at h2
        cases h2
      have h2 := wpOp_putIf hoj (hfree j oj hoj hji hjun hnot) (fun cs b => hsel i oi cs b hi) (fun cs b => hsel j oj cs b hoj) hQ hy h1
      refine wpOp_mono (fun a' w' h3 => ⟨h3.2.1, ih (listed.setIfInBounds j true) a' w' (inv.set hj hjn) (fun k ok hk hki hunk hno => hfree k ok hk hki ?_ hno) (ready_mono hr (Ne.symm hji)) h3.1 h3.2.1 ?_⟩) h2
      · by_cases hjk : j = k
        · subst hjk; exact hjun
        · rw [getD_set_ne true hjk] at hunk; exact hunk
      · rw [Array.setIfInBounds_comm _ _ hji]
        exact h3.2.2
/-- the first stage's plan, with what is listed behind it -/
def planT (md : Region.Mode) (ops : Array Oper) (n : Nat) (T : Array Bool) : List (Bool × Nat) → Array Bool → Bool
  | [], listed => decide (listed = T)
  | (true, i) :: r, listed => decide (i < n) && (Region.ready md ops listed).contains i && Region.free md ops listed i && planT md ops n T r (listed.setIfInBounds i true)
  | (false, i) :: r, listed => decide (i < n) && decide (Region.ready md ops listed = [i]) && planT md ops n T r (listed.setIfInBounds i true)
theorem headH_planT {n : Nat} {T : Array Bool} {R : Act → World → Prop} (hsel : Region.noSelect ops = true) (hQ : ∀ c (d : Option Tmp) v a w, Q (.panic c) (a.put d v) w → Q (.panic c) a w)
    (htw : ∀ listed, HeadInv md ops n listed → ∀ i, i < n → listed.getD i true = false → ∀ t, n ≤ t → t ∉ Region.ready md ops listed) (hT : ∀ j ∈ Region.ready md ops T, n ≤ j) :
    ∀ (pl : List (Bool × Nat)) (listed : Array Bool) (a : Act) (w : World), HeadInv md ops n listed → planT md ops n T pl listed = true → S w → wpPlan P ops S Q R pl a w →
    HeadH P md ops S Q n (fun listed' a' w' => listed' = T ∧ HeadInv md ops n listed' ∧ R a' w') pl.length listed a w
  | [], listed, a, w, inv, hB, _, h => ⟨of_decide_eq_true hB, inv, h⟩
  | (true, i) :: r, listed, a, w, inv, hB, hS, h => by
    simp only [planT, Bool.and_eq_true, decide_eq_true_eq] at hB
    obtain ⟨⟨⟨hin, hr⟩, hf⟩, hB'⟩ := hB
    have hr' : i ∈ Region.ready md ops listed := by simpa using hr
    obtain ⟨o, v, h0, hy, hK⟩ := h
    rw [List.length_cons]
    exact headH_first2 h0 (Region.noSelect_spec hsel) (fun c a w => hQ c o.dst v a w) htw hin (fun listed' a' w' hL => by rw [hL.1]; exact hT) r.length listed a w inv (Region.free_spec h0 hf) hr' hy hS
      (headH_planT hsel hQ htw hT r _ _ w (inv.set hr' hin) hB' hS hK)
  | (false, i) :: r, listed, a, w, inv, hB, hS, h => by
    simp only [planT, Bool.and_eq_true, decide_eq_true_eq] at hB
    obtain ⟨⟨hin, hr⟩, hB'⟩ := hB
    have hr' : i ∈ Region.ready md ops listed := by rw [hr]; simp
    rw [List.length_cons]
    refine ⟨fun h0 => (by rw [h0] at hr; cases hr), fun j hj => ?_⟩
    rw [hr] at hj
    obtain rfl : j = i := by simpa using hj
    exact ⟨hin, wpOp_mono (fun a' w' h3 => ⟨h3.1, headH_planT hsel hQ htw hT r _ _ _ (inv.set hr' hin) hB' h3.1 h3.2⟩) h⟩
theorem wp_region_plan2 {id : Nat} {a : Act} {w : World} {l : List Oper} {S2 : World → Prop} (n m : Nat) (pl pl2 : List (Bool × Nat)) (T : Array Bool) (hm : P.follows .mixedOrders = true) (hQ : ∀ c (d : Option Tmp) v a w, Q (.panic c) (a.put d v) w → Q (.panic c) a w)
    (hB : (Region.noSelect l.toArray && decide (n ≤ m) && decide (m < l.toArray.size) && decide (pl.length = n) && decide (pl.length + pl2.length = m) && Region.sinkB .any l.toArray n && treeB .any l.toArray n && Region.sinkB .any l.toArray m && Region.chainB .any l.toArray m && planT .any l.toArray n T pl (Array.replicate l.toArray.size false) && (Region.ready .any l.toArray T).all (fun j => decide (n ≤ j)) && planB .any l.toArray (l.toArray.size - m) m pl2 T) = true) (hS : S w.drew)
    (h : wpPlan P l.toArray S Q (fun a' w' => S2 w' ∧ wpPlan P l.toArray S2 Q (fun a'' w'' => wpList P l.toArray Q (l.drop m) a'' w'') pl2 a' w') pl a w.drew) : (Code.region id l.toArray true).wp P Q a w := by
  simp only [Bool.and_eq_true, decide_eq_true_eq] at hB
  obtain ⟨⟨⟨⟨⟨⟨⟨⟨⟨⟨⟨hsel, hnm⟩, hmz⟩, hpl⟩, hpl2⟩, hs⟩, ht⟩, hs2⟩, hc2⟩, hplan⟩, hT⟩, hplan2⟩ := hB
  have hT' : ∀ j ∈ Region.ready .any l.toArray T, n ≤ j := fun j hj => of_decide_eq_true (List.all_eq_true.1 hT j hj)
  have hml : m < l.length := by simpa using hmz
  have hdl : (l.drop m).length = l.toArray.size - m := by simp
  have inv0 : HeadInv .any l.toArray n (Array.replicate l.toArray.size false) :=
    ⟨by simp, fun j oj _ hl => (by rw [getD_replicate_false] at hl; cases hl), fun t _ ht => getD_in (by simpa using ht) (getD_replicate_false _ _)⟩
  have H := headH_planT (md := .any) hsel hQ (fun listed inv i hi hu => tail_waits2 hs ht (by omega) inv i hi hu) hT' pl _ a w.drew inv0 hplan hS h
  refine wp_region_any hm ?_
  have := headH_any (g := pl2.length + (l.toArray.size - m)) (fun listed' a' w' hL => by
    obtain ⟨hLT, hinv, hS2, h2⟩ := hL
    subst hLT
    have inv2 : HeadInv .any l.toArray m listed' := ⟨hinv.size, hinv.closed, fun t h1 h2 => hinv.tail t (by omega) h2⟩
    have H2 := headH_plan (md := .any) (g := l.toArray.size - m) hsel hQ hs2 hc2 hmz pl2 _ a' w' inv2 hplan2 hS2 h2
    exact headH_any (g := l.toArray.size - m) (fun listed'' a'' w'' hL2 => by
      have := wpAny_of_seq (md := .any) (Q' := Q) (l.drop m) m listed'' a'' w'' (fun j => by simp [List.getElem?_drop]) (by rw [hdl]; exact hL2.1) hL2.2
      rwa [hdl] at this) _ _ _ _ H2) _ _ _ _ H
  rw [← Nat.add_assoc, hpl2, show m + (l.toArray.size - m) = l.toArray.size by omega] at this
  exact this
end
end Go.Proofs.YtekahmlppaabjaaGreatDoor

/-
  A region that draws its order, walked in a plan of two stages, the last two operations of which may come in either order ('x.f = append(x.f, v)' of an element of many cells: which store is the last is left open). One walk, but for these two.
-/
namespace Go.Proofs.YtekahmlppaabjaaGreatDoor
open Go.RowKit
section
variable {P : Program} {ops : Array Oper} {md : Region.Mode} {S : World → Prop} {Q : Exit → Act → World → Prop}
/-- each operation from n on waits for all ahead of n -/
def allB (md : Region.Mode) (ops : Array Oper) (n : Nat) : Bool :=
  (List.range ops.size).all fun t => decide (t < n) || (List.range n).all fun i => Region.waitsFor md ops t i
theorem tail_waits3 {n : Nat} {listed : Array Bool} (hc : allB md ops n = true) :
    ∀ (i : Nat), i < n → listed.getD i true = false → ∀ t, n ≤ t → t ∉ Region.ready md ops listed := by
  intro i hi hui t ht hr
  obtain ⟨_, ot, hot, hall⟩ := mem_ready.1 hr
  have htlt : t < ops.size := (Array.getElem?_eq_some_iff.1 hot).1
  have h1 := List.all_eq_true.1 hc t (List.mem_range.2 htlt)
  rw [Bool.or_eq_true] at h1
  rcases h1 with h1 | h1
  · have := of_decide_eq_true h1; omega
  · obtain ⟨oj, hoj, e, he, hb, hon⟩ := Region.waitsFor_spec (List.all_eq_true.1 h1 i (List.mem_range.2 hi))
    obtain rfl : oj = ot := Option.some.inj (hoj.symm.trans hot)
    have h2 := hall e he hb
    rw [hon, getD_both hui] at h2
    cases h2
/-- the second stage: its plan, then two in either order -/
def planP (md : Region.Mode) (ops : Array Oper) (x y : Nat) : List (Bool × Nat) → Array Bool → Bool
  | [], listed => decide (Region.ready md ops listed = [x, y]) && decide (Region.ready md ops (listed.setIfInBounds x true) = [y]) && decide (Region.ready md ops (listed.setIfInBounds y true) = [x]) && (Region.ready md ops ((listed.setIfInBounds x true).setIfInBounds y true)).isEmpty && (Region.ready md ops ((listed.setIfInBounds y true).setIfInBounds x true)).isEmpty && decide (x < ops.size) && decide (y < ops.size)
  | (true, i) :: r, listed => decide (i < ops.size) && (Region.ready md ops listed).contains i && Region.free md ops listed i && planP md ops x y r (listed.setIfInBounds i true)
  | (false, i) :: r, listed => decide (i < ops.size) && decide (Region.ready md ops listed = [i]) && planP md ops x y r (listed.setIfInBounds i true)
/-- both orders of two operations -/
def Both2 (P : Program) (ops : Array Oper) (Q : Exit → Act → World → Prop) (x y : Nat) (a : Act) (w : World) : Prop :=
  wpOp P ops Q x (fun a' w' => wpOp P ops Q y (Q .normal) a' w') a w ∧ wpOp P ops Q y (fun a' w' => wpOp P ops Q x (Q .normal) a' w') a w
theorem headH_planP {x y : Nat} (hsel : Region.noSelect ops = true) (hQ : ∀ c (d : Option Tmp) v a w, Q (.panic c) (a.put d v) w → Q (.panic c) a w) :
    ∀ (pl : List (Bool × Nat)) (listed : Array Bool) (a : Act) (w : World), HeadInv md ops ops.size listed → planP md ops x y pl listed = true → wpPlan P ops (fun _ => True) Q (Both2 P ops Q x y) pl a w →
    HeadH P md ops (fun _ => True) Q ops.size (fun listed a w => Region.ready md ops listed = [] ∧ Q .normal a w) (pl.length + 2) listed a w
  | [], listed, a, w, _, hB, h => by
    simp only [planP, Bool.and_eq_true, decide_eq_true_eq, List.isEmpty_iff] at hB
    obtain ⟨⟨⟨⟨⟨⟨h1, h2⟩, h3⟩, h4⟩, h5⟩, hx⟩, hy⟩ := hB
    refine ⟨by rw [h1]; simp, fun i hi => ?_⟩
    rw [h1] at hi
    simp only [List.mem_cons, List.not_mem_nil, or_false] at hi
    rcases hi with rfl | rfl
    · refine ⟨hx, wpOp_mono (fun a' w' h6 => ⟨trivial, by rw [h2]; simp, fun j hj => ?_⟩) h.1⟩
      rw [h2] at hj
      obtain rfl : j = y := by simpa using hj
      exact ⟨hy, wpOp_mono (fun a'' w'' h7 => ⟨trivial, h4, h7⟩) h6⟩
    · refine ⟨hy, wpOp_mono (fun a' w' h6 => ⟨trivial, by rw [h3]; simp, fun j hj => ?_⟩) h.2⟩
      rw [h3] at hj
      obtain rfl : j = x := by simpa using hj
      exact ⟨hx, wpOp_mono (fun a'' w'' h7 => ⟨trivial, h5, h7⟩) h6⟩
  | (true, i) :: r, listed, a, w, inv, hB, h => by
    simp only [planP, Bool.and_eq_true, decide_eq_true_eq] at hB
    obtain ⟨⟨⟨hin, hr⟩, hf⟩, hB'⟩ := hB
    have hr' : i ∈ Region.ready md ops listed := by simpa using hr
    obtain ⟨o, v, h0, hy, hK⟩ := h
    rw [List.length_cons, show r.length + 1 + 2 = (r.length + 2) + 1 by omega]
    refine headH_first2 h0 (Region.noSelect_spec hsel) (fun c a w => hQ c o.dst v a w) (fun listed _ i hi _ t ht hr => ?_) hin (fun listed' a' w' hL j hj => by rw [hL.1] at hj; cases hj) (r.length + 2) listed a w inv (Region.free_spec h0 hf) hr' hy trivial
      (headH_planP hsel hQ r _ _ w (inv.set hr' hin) hB' hK)
    obtain ⟨_, ot, hot, _⟩ := mem_ready.1 hr
    have := (Array.getElem?_eq_some_iff.1 hot).1
    omega
  | (false, i) :: r, listed, a, w, inv, hB, h => by
    simp only [planP, Bool.and_eq_true, decide_eq_true_eq] at hB
    obtain ⟨⟨hin, hr⟩, hB'⟩ := hB
    have hr' : i ∈ Region.ready md ops listed := by rw [hr]; simp
    rw [List.length_cons, show r.length + 1 + 2 = (r.length + 2) + 1 by omega]
    refine ⟨fun h0 => (by rw [h0] at hr; cases hr), fun j hj => ?_⟩
    rw [hr] at hj
    obtain rfl : j = i := by simpa using hj
    exact ⟨hin, wpOp_mono (fun a' w' h3 => ⟨trivial, headH_planP hsel hQ r _ _ _ (inv.set hr' hin) hB' h3.2⟩) h⟩
theorem wp_region_plan3 {id : Nat} {a : Act} {w : World} {l : List Oper} (n : Nat) (pl pl2 : List (Bool × Nat)) (x y : Nat) (T : Array Bool) (hm : P.follows .mixedOrders = true) (hQ : ∀ c (d : Option Tmp) v a w, Q (.panic c) (a.put d v) w → Q (.panic c) a w)
    (hB : (Region.noSelect l.toArray && decide (pl.length = n) && decide (n + (pl2.length + 2) = l.toArray.size) && allB .any l.toArray n && planT .any l.toArray n T pl (Array.replicate l.toArray.size false) && (Region.ready .any l.toArray T).all (fun j => decide (n ≤ j)) && planP .any l.toArray x y pl2 T) = true) (hS : S w.drew)
    (h : wpPlan P l.toArray S Q (fun a' w' => wpPlan P l.toArray (fun _ => True) Q (Both2 P l.toArray Q x y) pl2 a' w') pl a w.drew) : (Code.region id l.toArray true).wp P Q a w := by
  simp only [Bool.and_eq_true, decide_eq_true_eq] at hB
  obtain ⟨⟨⟨⟨⟨⟨hsel, hpl⟩, hsz⟩, hall⟩, hplan⟩, hT⟩, hplan2⟩ := hB
  have hT' : ∀ j ∈ Region.ready .any l.toArray T, n ≤ j := fun j hj => of_decide_eq_true (List.all_eq_true.1 hT j hj)
  have inv0 : HeadInv .any l.toArray n (Array.replicate l.toArray.size false) :=
    ⟨by simp, fun j oj _ hl => (by rw [getD_replicate_false] at hl; cases hl), fun t _ ht => getD_in (by simpa using ht) (getD_replicate_false _ _)⟩
  have H := headH_planT (md := .any) hsel hQ (fun listed _ i hi hu => tail_waits3 hall i hi hu) hT' pl _ a w.drew inv0 hplan hS h
  refine wp_region_any hm ?_
  have := headH_any (g := pl2.length + 2) (fun listed' a' w' hL => by
    obtain ⟨hLT, hinv, h2⟩ := hL
    subst hLT
    have inv2 : HeadInv .any l.toArray l.toArray.size listed' := ⟨hinv.size, hinv.closed, fun t h1 h2 => by omega⟩
    have H2 := headH_planP (md := .any) hsel hQ pl2 _ a' w' inv2 hplan2 h2
    exact headH_any (g := 0) (fun listed'' a'' w'' hL2 => hL2) _ _ _ _ H2) _ _ _ _ H
  rw [hpl, hsz] at this
  exact this
end
end Go.Proofs.YtekahmlppaabjaaGreatDoor

/-
  A scope with two labels, 0 at its head and 1 within, between which the run jumps to and fro: what holds at each jump, with a number that each jump lowers.
-/
namespace Go.Proofs.YtekahmlppaabjaaGreatDoor
open Go.RowKit
/-- by a goto to label 0: J0; to label 1: J1, each at a smaller number; else as Q -/
def Exit2 (n : Nat) (J0 J1 : Nat → Act → World → Prop) (Q : Exit → Act → World → Prop) : Exit → Act → World → Prop
  | .goto l, a, w => ∃ m, m < n ∧ ((l = 0 ∧ J0 m a w) ∨ (l = 1 ∧ J1 m a w))
  | e, a, w => Q e a w
section
variable {P : Program} {a : Act} {w : World} {n : Nat} {J0 J1 : Nat → Act → World → Prop} {Q : Exit → Act → World → Prop}
@[go_sem] theorem exit2_normal : Exit2 n J0 J1 Q .normal a w = Q .normal a w := rfl
@[go_sem] theorem exit2_exit (id : Nat) : Exit2 n J0 J1 Q (.exit id) a w = Q (.exit id) a w := rfl
@[go_sem] theorem exit2_ret : Exit2 n J0 J1 Q .ret a w = Q .ret a w := rfl
@[go_sem] theorem exit2_panic (ch : List PanicEntry) : Exit2 n J0 J1 Q (.panic ch) a w = Q (.panic ch) a w := rfl
theorem exit2_mono {m : Nat} (h : m ≤ n) : ∀ e a w, Exit2 m J0 J1 Q e a w → Exit2 n J0 J1 Q e a w := by
  intro e a w hq
  cases e with
  | goto l => obtain ⟨k, hk, hj⟩ := hq; exact ⟨k, by omega, hj⟩
  | normal => exact hq
  | exit id => exact hq
  | ret => exact hq
  | panic ch => exact hq
  | outgrown => exact hq
theorem wp_scope_two {X Y : Code} (J0 J1 : Nat → Act → World → Prop) (h1 : findLabel ((Code.label 0).seq X) 1 = some (Code.skip.seq Y))
    (pass1 : ∀ n a w, J1 n a w → Y.wp P (Exit2 n J0 J1 Q) a w)
    (pass0 : (∀ n a w, J1 n a w → Y.wp P (Exit2 n J0 J1 Q) a w) → ∀ n a w, J0 n a w → X.wp P (Exit2 n J0 J1 Q) a w) (n : Nat) (first : J0 n a w) : (Code.scope ((Code.label 0).seq X)).wp P Q a w := by
  have p0 := pass0 pass1
  have h0 : findLabel ((Code.label 0).seq X) 0 = some (Code.skip.seq X) := rfl
  intro b k cs
  have hg0 : gotoIn 0 (.inScope ((Code.label 0).seq X) :: k) = some (.code (Code.skip.seq X) :: .inScope ((Code.label 0).seq X) :: k) := by simp [gotoIn, h0]
  have hg1 : gotoIn 1 (.inScope ((Code.label 0).seq X) :: k) = some (.code (Code.skip.seq Y) :: .inScope ((Code.label 0).seq X) :: k) := by simp [gotoIn, h1]
  have key : ∀ n, (∀ a w, J0 n a w → ∃ e a' w', Q e a' w' ∧ Arrives P (lone (b.at a (.code (Code.skip.seq X) :: .inScope ((Code.label 0).seq X) :: k)) cs w) b k cs e a' w') ∧ (∀ a w, J1 n a w → ∃ e a' w', Q e a' w' ∧ Arrives P (lone (b.at a (.code (Code.skip.seq Y) :: .inScope ((Code.label 0).seq X) :: k)) cs w) b k cs e a' w') := by
    intro n
    induction n using Nat.strongRecOn with
    | _ n ih =>
      have fin : ∀ (Z : Code) a w, Z.wp P (Exit2 n J0 J1 Q) a w → ∃ e a' w', Q e a' w' ∧ Arrives P (lone (b.at a (.code Z :: .inScope ((Code.label 0).seq X) :: k)) cs w) b k cs e a' w' := by
        intro Z a w hZ
        obtain ⟨e, a₁, w₁, hq, harr⟩ := hZ b (.inScope ((Code.label 0).seq X) :: k) cs
        cases e with
        | normal => exact ⟨.normal, a₁, w₁, hq, Steps.trans harr (.one step_inScope)⟩
        | exit id => exact ⟨.exit id, a₁, w₁, hq, fun k' hk => harr k' (by simp [exitTo, hk])⟩
        | goto l' =>
          obtain ⟨m, hm, ⟨rfl, hJ⟩ | ⟨rfl, hJ⟩⟩ := hq
          · obtain ⟨e₂, a₂, w₂, hq₂, harr₂⟩ := (ih m hm).1 a₁ w₁ hJ
            exact ⟨e₂, a₂, w₂, hq₂, .of_steps (harr _ hg0) harr₂⟩
          · obtain ⟨e₂, a₂, w₂, hq₂, harr₂⟩ := (ih m hm).2 a₁ w₁ hJ
            exact ⟨e₂, a₂, w₂, hq₂, .of_steps (harr _ hg1) harr₂⟩
        | ret => exact ⟨_, a₁, w₁, hq, harr⟩
        | panic ch => exact ⟨_, a₁, w₁, hq, harr⟩
        | outgrown => exact ⟨_, a₁, w₁, hq, harr⟩
      exact ⟨fun a w hJ => fin _ a w (wp_seq (wp_skip (p0 n a w hJ))), fun a w hJ => fin _ a w (wp_seq (wp_skip (pass1 n a w hJ)))⟩
  have hfirst : ((Code.label 0).seq X).wp P (Exit2 n J0 J1 Q) a w := wp_seq (wp_label (p0 n a w first))
  obtain ⟨e, a₁, w₁, hq, harr⟩ := hfirst b (.inScope ((Code.label 0).seq X) :: k) cs
  cases e with
  | normal => exact ⟨.normal, a₁, w₁, hq, .head step_scope (Steps.trans harr (.one step_inScope))⟩
  | exit id => exact ⟨.exit id, a₁, w₁, hq, fun k' hk => .head step_scope (harr k' (by simp [exitTo, hk]))⟩
  | goto l' =>
    obtain ⟨m, hm, ⟨rfl, hJ⟩ | ⟨rfl, hJ⟩⟩ := hq
    · obtain ⟨e₂, a₂, w₂, hq₂, harr₂⟩ := (key m).1 a₁ w₁ hJ
      exact ⟨e₂, a₂, w₂, hq₂, .of_steps (.head step_scope (harr _ hg0)) harr₂⟩
    · obtain ⟨e₂, a₂, w₂, hq₂, harr₂⟩ := (key m).2 a₁ w₁ hJ
      exact ⟨e₂, a₂, w₂, hq₂, .of_steps (.head step_scope (harr _ hg1)) harr₂⟩
  | ret => exact ⟨_, a₁, w₁, hq, .of_steps (.one step_scope) harr⟩
  | panic ch => exact ⟨_, a₁, w₁, hq, .of_steps (.one step_scope) harr⟩
  | outgrown => exact ⟨_, a₁, w₁, hq, .of_steps (.one step_scope) harr⟩
end
end Go.Proofs.YtekahmlppaabjaaGreatDoor
