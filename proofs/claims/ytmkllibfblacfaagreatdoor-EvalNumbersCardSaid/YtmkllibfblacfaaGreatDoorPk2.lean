/-
  Texts of the layers, part 2: Plan, LexOne, LexProg4, LexProg5, Dump, DskArr, ListAt, AppOne, Slice1, LexAll, LexProg6, LexProgA, LexProgB, SynPr1, SynRef1, ValRight, SynSame, SynSmall, SynOps, SynRight, OwnStr, SynNames, ValQuote, Rely, RelyC, ValDig, StrCmp, Itoa, ValText, SynWrite, SynText, SynRdr, SynOp, SynFst, SynPr2, SynFst2, SynPr3, SynRd, SynRd2, SynRd3, SynRd4, SynPr4, SynPr5, SynPr6, Plan2, Plan3, SynPr7, SynPrB, SynPrC, SynPr8, AppIn.
-/
import Derived.Test.YtmkllibfblacfaaGreatDoorPk1
import Derived.SliceStrings
import Derived.BigQuiet
import Derived.Test.YtmkllibfblacfaaGreatDoorProg
import Derived.WalkKit
import Derived.Deep.MidRow
import Derived.ChangeKeysEq
import Derived.Laws.MakeOwn
import Derived.Deep.DeepAppendWide
import Derived.ArgAppend
import Derived.Deep.AppendLies
import Derived.Great.FillDense
import Derived.Great.BuildSlice
import Derived.Deep.LoopGhost
import Derived.Deep.Cut
import Derived.LoopTactic
import Derived.Laws.RangeAny
import Derived.Deep.RegionHeld3
import Derived.Laws.StructEq
import Derived.LaidEql
import Derived.Lib.OthersKept
import Derived.Orders
import Derived.StillTail
import Derived.IntWalk
import Derived.Lib.ItoaLen
import Derived.Lib.Bytealg
import Derived.Laws.Externs
import Derived.Shelf.Strconv.Itoa3
import Derived.Shelf.Abstract
import Derived.Shelf.RegionOpen
import Derived.OwnWalkIn
import Derived.TacticsInMore
import Derived.LoopNIn
import Derived.LoopIn
import Derived.RegionIn
import Derived.Sort.LoopGhostIn
import Derived.LaidEqlPtr
/-
  A region that draws its order, walked in a planned one: operations that only read (under a condition S on the world), each as soon as it is ready; operations that write or call and keep S, each where nothing else is ready; then the last ones in their forced order. One walk.
-/
namespace Go.Proofs.YtmkllibfblacfaaGreatDoor
open Go.RowKit
section
variable {P : Program} {ops : Array Oper} {md : Region.Mode} {S : World → Prop} {Q : Exit → Act → World → Prop}
/-- the plan: (true, i): operation i only reads; (false, i): it may write, and keeps S -/
def wpPlan (P : Program) (ops : Array Oper) (S : World → Prop) (Q : Exit → Act → World → Prop) (R : Act → World → Prop) : List (Bool × Nat) → Act → World → Prop
  | [], a, w => R a w
  | (true, i) :: r, a, w => ∃ o v, ops[i]? = some o ∧ YieldsIf P ops S o v a ∧ wpPlan P ops S Q R r (a.put o.dst v) w
  | (false, i) :: r, a, w => wpOp P ops Q i (fun a' w' => S w' ∧ wpPlan P ops S Q R r a' w') a w
def planB (md : Region.Mode) (ops : Array Oper) (g n : Nat) : List (Bool × Nat) → Array Bool → Bool
  | [], listed => Region.seqB md ops g n listed
  | (true, i) :: r, listed => decide (i < n) && (Region.ready md ops listed).contains i && Region.free md ops listed i && planB md ops g n r (listed.setIfInBounds i true)
  | (false, i) :: r, listed => decide (i < n) && decide (Region.ready md ops listed = [i]) && planB md ops g n r (listed.setIfInBounds i true)
theorem headH_plan {n g : Nat} {R : Act → World → Prop} (hsel : Region.noSelect ops = true) (hQ : ∀ c (d : Option Tmp) v a w, Q (.panic c) (a.put d v) w → Q (.panic c) a w) (hs : Region.sinkB md ops n = true) (hc : Region.chainB md ops n = true) (hn : n < ops.size) :
    ∀ (pl : List (Bool × Nat)) (listed : Array Bool) (a : Act) (w : World), HeadInv md ops n listed → planB md ops g n pl listed = true → S w → wpPlan P ops S Q R pl a w →
    HeadH P md ops S Q n (fun listed' a' w' => Region.seqB md ops g n listed' = true ∧ R a' w') pl.length listed a w
  | [], listed, a, w, _, hB, _, h => ⟨hB, h⟩
  | (true, i) :: r, listed, a, w, inv, hB, hS, h => by
    simp only [planB, Bool.and_eq_true, decide_eq_true_eq] at hB
    obtain ⟨⟨⟨hin, hr⟩, hf⟩, hB'⟩ := hB
    have hr' : i ∈ Region.ready md ops listed := by simpa using hr
    obtain ⟨o, v, h0, hy, hK⟩ := h
    rw [List.length_cons]
    exact headH_first h0 (Region.noSelect_spec hsel) (fun c a w => hQ c o.dst v a w) hs hc hn hin (fun listed' a' w' hL => seqB_ready hL.1) r.length listed a w inv (Region.free_spec h0 hf) hr' hy hS
      (headH_plan hsel hQ hs hc hn r _ _ w (inv.set hr' hin) hB' hS hK)
  | (false, i) :: r, listed, a, w, inv, hB, hS, h => by
    simp only [planB, Bool.and_eq_true, decide_eq_true_eq] at hB
    obtain ⟨⟨hin, hr⟩, hB'⟩ := hB
    have hr' : i ∈ Region.ready md ops listed := by rw [hr]; simp
    rw [List.length_cons]
    refine ⟨fun h0 => (by rw [h0] at hr; cases hr), fun j hj => ?_⟩
    rw [hr] at hj
    obtain rfl : j = i := by simpa using hj
    exact ⟨hin, wpOp_mono (fun a' w' h3 => ⟨h3.1, headH_plan hsel hQ hs hc hn r _ _ _ (inv.set hr' hin) hB' h3.1 h3.2⟩) h⟩
theorem wp_region_plan {id : Nat} {a : Act} {w : World} {l : List Oper} (n : Nat) (pl : List (Bool × Nat)) (hm : P.follows .mixedOrders = true) (hQ : ∀ c (d : Option Tmp) v a w, Q (.panic c) (a.put d v) w → Q (.panic c) a w)
    (hB : (Region.noSelect l.toArray && decide (n < l.toArray.size) && decide (pl.length = n) && Region.sinkB .any l.toArray n && Region.chainB .any l.toArray n && planB .any l.toArray (l.toArray.size - n) n pl (Array.replicate l.toArray.size false)) = true) (hS : S w.drew)
    (h : wpPlan P l.toArray S Q (fun a'' w'' => wpList P l.toArray Q (l.drop n) a'' w'') pl a w.drew) : (Code.region id l.toArray true).wp P Q a w := by
  simp only [Bool.and_eq_true, decide_eq_true_eq] at hB
  obtain ⟨⟨⟨⟨⟨hsel, hn⟩, hpl⟩, hs⟩, hc⟩, hplan⟩ := hB
  have hn' : n < l.length := by simpa using hn
  have hdl : (l.drop n).length = l.toArray.size - n := by simp
  have inv0 : HeadInv .any l.toArray n (Array.replicate l.toArray.size false) :=
    ⟨by simp, fun j oj _ hl => (by rw [getD_replicate_false] at hl; cases hl), fun t _ ht => getD_in (by simpa using ht) (getD_replicate_false _ _)⟩
  have H := headH_plan (md := .any) (g := l.toArray.size - n) hsel hQ hs hc hn pl _ a w.drew inv0 hplan hS h
  refine wp_region_any hm ?_
  have := headH_any (g := l.toArray.size - n) (fun listed' a' w' hL => by
    have := wpAny_of_seq (md := .any) (Q' := Q) (l.drop n) n listed' a' w' (fun j => by simp [List.getElem?_drop]) (by rw [hdl]; exact hL.1) hL.2
    rwa [hdl] at this) _ _ _ _ H
  rw [hpl, show n + (l.toArray.size - n) = l.toArray.size by omega] at this
  exact this
section
variable {l : List Oper}
/-- a step that only reads; its value is found by the walk -/
theorem wpPlan_step {R : Act → World → Prop} {i : Nat} {r : List (Bool × Nat)} {o : Oper} {a : Act} {w : World} (hi : l[i]? = some o) (h : ∃ v, (Region.wanted o (yielded l.toArray a.tmps) = true ∧ ∀ w, S w → (execOp a.eval o).run P w = .ok (.value v) w) ∧ wpPlan P l.toArray S Q R r (a.put o.dst v) w) : wpPlan P l.toArray S Q R ((true, i) :: r) a w := by
  obtain ⟨v, h1, h2⟩ := h
  exact ⟨o, v, by rw [List.getElem?_toArray]; exact hi, .inl h1, h2⟩
/-- a step that keeps S -/
theorem wpPlan_keep {R : Act → World → Prop} {i : Nat} {r : List (Bool × Nat)} {o : Oper} {a : Act} {w : World} (hi : l[i]? = some o) (hw : Region.wanted o (yielded l.toArray a.tmps) = true)
    (h : ∀ K : Act → World → Prop, (∀ a' w', S w' → wpPlan P l.toArray S Q R r a' w' → K a' w') → Oper.wp P o a w K Q) : wpPlan P l.toArray S Q R ((false, i) :: r) a w := by
  show wpOp P l.toArray Q i _ a w
  have hi' : l.toArray[i]? = some o := by rw [List.getElem?_toArray]; exact hi
  unfold wpOp
  simp only [hi']
  rw [if_pos hw]
  exact .inl (h _ fun a' w' h1 h2 => ⟨h1, h2⟩)
/-- a call of a Go function -/
theorem wpPlan_call {R : Act → World → Prop} {i : Nat} {r : List (Bool × Nat)} {o : Oper} {a : Act} {w : World} (hi : l[i]? = some o) (hw : Region.wanted o (yielded l.toArray a.tmps) = true) (f : FuncId) (args : Array Value) (hrun : (execOp a.eval o).run P w = .ok (.enter f args) w)
    {R' : Ending → World → Prop} (hc : Calls P f args w R') (h : ∀ e w', R' e w' → (∃ v, e = .returned v ∧ S w' ∧ wpPlan P l.toArray S Q R r (a.put o.dst v) w') ∨ (∃ c, e = .panicked c ∧ Q (.panic c) a w')) : wpPlan P l.toArray S Q R ((false, i) :: r) a w := by
  show wpOp P l.toArray Q i _ a w
  have hi' : l.toArray[i]? = some o := by rw [List.getElem?_toArray]; exact hi
  unfold wpOp
  simp only [hi']
  rw [if_pos hw]
  refine .inl ?_
  unfold Oper.wp
  rw [hrun, Oper.upon_enter]
  refine hc.mono fun e w' he => ?_
  rcases h e w' he with ⟨v, rfl, h1, h2⟩ | ⟨c, rfl, h1⟩
  · exact ⟨h1, h2⟩
  · exact h1
end
end
end Go.Proofs.YtmkllibfblacfaaGreatDoor

/-
  Layer 13: the document's first token of a text.
-/
namespace Go.Proofs.YtmkllibfblacfaaGreatDoor
open Go.RowKit
/-- the marks as strings in memory -/
abbrev marksV : List Value := Lx.marks.map fun m => .string (Lx.mk m)
theorem marks_len : Lx.marks.length = 16 := rfl
/-- none of the first k marks stands ahead -/
def NoMark (l : List UInt8) (k : Nat) : Prop := ∀ m ∈ Lx.marks.take k, m.isPrefixOf l = false
theorem noMark_start (l : List UInt8) : NoMark l 0 := by intro m hm; simp at hm
theorem noMark_next {l : List UInt8} {k : Nat} (h : NoMark l k) (hk : k < Lx.marks.length) (hp : Lx.marks[k].isPrefixOf l = false) : NoMark l (k + 1) := by
  intro m hm
  rw [List.take_succ_eq_append_getElem hk] at hm
  rcases List.mem_append.1 hm with hm | hm
  · exact h m hm
  · simp only [List.mem_singleton] at hm; subst hm; exact hp
theorem noMark_end {l : List UInt8} (h : NoMark l 16) : Lx.markT l = (Lx.no, 0, 11) := by
  unfold Lx.markT
  have : Lx.marks.find? (fun m => m.isPrefixOf l) = none := by
    rw [List.find?_eq_none]
    intro m hm
    have := h m (by rw [List.take_of_length_le (by rw [marks_len]; omega)]; exact hm)
    simp [this]
  rw [this]
theorem noMark_hit {l : List UInt8} {k : Nat} (h : NoMark l k) (hk : k < Lx.marks.length) (hp : Lx.marks[k].isPrefixOf l = true) : Lx.markT l = (⟨4, Lx.mk Lx.marks[k], 0, 0⟩, Lx.marks[k].length, 0) := by
  have key : Lx.marks.find? (fun m => m.isPrefixOf l) = some Lx.marks[k] := by
    have e : Lx.marks = Lx.marks.take k ++ Lx.marks[k] :: Lx.marks.drop (k + 1) := by rw [List.getElem_cons_drop, List.take_append_drop]
    rw [List.find?_eq_some_iff_append]
    refine ⟨hp, Lx.marks.take k, Lx.marks.drop (k + 1), e, fun m hm => ?_⟩
    simp [h m hm]
  unfold Lx.markT
  rw [key]
theorem tok_one4 {X : ByteArray} : (#[Value.int IntKind.i64 4, Value.string X, Value.int IntKind.i64 0, Value.int IntKind.i64 0].all (·.oneCell')) = true := by simp [Value.oneCell']
end Go.Proofs.YtmkllibfblacfaaGreatDoor

/-
  Layer 13, the program's: marks.
-/
namespace Go.Proofs.YtmkllibfblacfaaGreatDoor
open Go.RowKit
set_option maxRecDepth 100000 in
theorem mark13_fn (m s : ByteArray) (g : Nat) (w : World) (hc : w.cell? ⟨g, 0, none⟩ = some (.string s)) :
    Calls Tryz.prog 122 #[.string m, .pointer (some ⟨g, 0, none⟩)] w fun e w' => e = .returned (.bool (m.data.toList.isPrefixOf s.data.toList)) ∧ w' = w := by
  have cH := hasPre_any s m w
  generalize m.data.toList.isPrefixOf s.data.toList = B at *
  have H := Lib.hid cH
  clear cH
  go_enter Tryz.func122, Tryz.ntmps122
  go_wp2_with fail
  refine H.out.mono ?_
  rintro e w1 ⟨rfl, rfl⟩
  go_wp2_with fail
  go_ret
  exact ⟨rfl, rfl⟩
set_option maxRecDepth 100000 in
set_option maxHeartbeats 3200000 in
theorem marks13_any (w : World) : Calls Tryz.prog 120 #[] w fun e w' => e = .returned (.slice (some ⟨w.heap.size, 0, none⟩) 16 16) ∧ w' = w.alloc (.cells marksV.toArray 9) := by
  go_enter Tryz.func120, Tryz.ntmps120
  go_wp2_with fail
  go_ret
  exact ⟨rfl, rfl⟩
/-- the first mark that stands ahead, or none -/
def MarkIx (l : List UInt8) (w : World) (e : Ending) (w' : World) : Prop :=
  w' = w ∧ ((∃ k, ∃ hk : k < Lx.marks.length, e = .returned (.int .i64 (k : Int)) ∧ NoMark l k ∧ Lx.marks[k].isPrefixOf l = true) ∨ (e = .returned (.int .i64 (-1)) ∧ NoMark l 16))
theorem marks_cell {w : World} {g : Nat} (h : RowV w g 9 marksV) (k : Nat) (hk : k < Lx.marks.length) : w.cell? ⟨g, k, none⟩ = some (.string (Lx.mk Lx.marks[k])) := by
  rw [rowV_cell h k]
  show (Lx.marks.map fun m => Value.string (Lx.mk m))[k]? = _
  rw [List.getElem?_map, List.getElem?_eq_getElem hk]; rfl
set_option maxRecDepth 100000 in
set_option maxHeartbeats 3200000 in
theorem index13_any (s : ByteArray) (g gm : Nat) (w : World) (hc : w.cell? ⟨g, 0, none⟩ = some (.string s)) (hm : RowV w gm 9 marksV) :
    Calls Tryz.prog 121 #[.slice (some ⟨gm, 0, none⟩) 16 16, .func (.func 122) #[] #[.pointer (some ⟨g, 0, none⟩)]] w (MarkIx s.data.toList w) := by
  have H := Lib.hid (And.intro hc hm)
  clear hc hm
  go_enter Tryz.func121, Tryz.ntmps121
  go_wp2_with fail
  go_loop [8] (fun i => ∃ k : Nat, k ≤ 16 ∧ i = .int .i64 (k : Int) ∧ Hid (NoMark s.data.toList k)) (fun i => 16 - (intOf i).toNat)
  case atStart => exact ⟨0, Nat.zero_le _, rfl, Lib.hid (noMark_start _)⟩
  case round =>
    obtain ⟨k, hk, rfl, HM⟩ := hrel
    by_cases hlt : k < 16
    · have hkl : k < Lx.marks.length := hlt
      have hcell := marks_cell H.out.2 k hkl
      have hF := mark13_fn (Lx.mk Lx.marks[k]) s g w H.out.1
      rw [show (Lx.mk Lx.marks[k]).data.toList = Lx.marks[k] from rfl] at hF
      cases hb : Lx.marks[k].isPrefixOf s.data.toList with
      | true =>
        rw [hb] at hF
        have HX : Hid (MarkIx s.data.toList w (.returned (.int .i64 (k : Int))) w) := Lib.hid ⟨rfl, .inl ⟨k, hkl, rfl, HM.out, hb⟩⟩
        have HC := Lib.hid hF
        clear hF hb
        generalize Lx.mk Lx.marks[k] = M at *
        go_wp2_with fail
        refine HC.out.mono ?_
        rintro e w1 ⟨rfl, hw1⟩
        obtain rfl := hw1.symm; clear hw1
        go_wp2_with fail
        go_ret
        exact HX.out
      | false =>
        rw [hb] at hF
        have HX := Lib.hid (noMark_next HM.out hkl hb)
        have HC := Lib.hid hF
        clear hF hb
        generalize Lx.mk Lx.marks[k] = M at *
        go_wp2_with fail
        refine HC.out.mono ?_
        rintro e w1 ⟨rfl, hw1⟩
        obtain rfl := hw1.symm; clear hw1
        go_wp2_with fail
        go_round
        case rel => exact ⟨k + 1, by omega, by go_num, HX⟩
        case measure => simp [intOf]; omega
    · obtain rfl : k = 16 := by omega
      have HX : Hid (MarkIx s.data.toList w (.returned (.int .i64 (-1))) w) := Lib.hid ⟨rfl, .inr ⟨rfl, HM.out⟩⟩
      go_wp2_with fail
      go_ret
      exact HX.out
end Go.Proofs.YtmkllibfblacfaaGreatDoor

/-
  Layer 13, the program's: a mark; the first token of a text.
-/
namespace Go.Proofs.YtmkllibfblacfaaGreatDoor
open Go.RowKit
theorem mark_world (s : ByteArray) (w : World) :
    (((w.alloc (.cells #[.string s] 9)).alloc (.cells (tokC Lx.no) 78)).alloc (.cells marksV.toArray 9)).cell? ⟨w.heap.size, 0, none⟩ = some (.string s) ∧
    RowV (((w.alloc (.cells #[.string s] 9)).alloc (.cells (tokC Lx.no) 78)).alloc (.cells marksV.toArray 9)) (w.heap.size + 1) 78 (tokC Lx.no).toList ∧
    RowV (((w.alloc (.cells #[.string s] 9)).alloc (.cells (tokC Lx.no) 78)).alloc (.cells marksV.toArray 9)) (w.heap.size + 2) 9 marksV ∧
    Below w.heap.size w (((w.alloc (.cells #[.string s] 9)).alloc (.cells (tokC Lx.no) 78)).alloc (.cells marksV.toArray 9)) := by
  have s1 : (w.alloc (.cells #[.string s] 9)).heap.size = w.heap.size + 1 := World.size_alloc _ _
  have s2 : ((w.alloc (.cells #[.string s] 9)).alloc (.cells (tokC Lx.no) 78)).heap.size = w.heap.size + 2 := by rw [World.size_alloc, s1]
  have r1 : RowV (w.alloc (.cells #[.string s] 9)) w.heap.size 9 [.string s] := rowV_new w _ [.string s]
  have r2 := (tok_new Lx.no (w.alloc (.cells #[.string s] 9))).1
  have r3 := rowV_new ((w.alloc (.cells #[.string s] 9)).alloc (.cells (tokC Lx.no) 78)) 9 marksV
  rw [s1] at r2
  rw [s2] at r3
  exact ⟨rowV_cell (rowV_alloc (rowV_alloc r1 _) _) 0, rowV_alloc r2 _, r3, (((Below.refl w.heap.size w).alloc (Nat.le_refl _) _).alloc (by rw [s1]; omega) _).alloc (by rw [s2]; omega) _⟩
set_option maxRecDepth 100000 in
set_option maxHeartbeats 6400000 in
theorem mark13_any (s : ByteArray) (w : World) :
    Calls Tryz.prog 85 #[.string s] w fun e w' => e = .returned (.tuple #[tokV (Lx.markT s.data.toList).1, .int .i64 ((Lx.markT s.data.toList).2.1 : Nat), .int .i64 (Lx.markT s.data.toList).2.2]) ∧ Below w.heap.size w w' := by
  obtain ⟨c0, ra, rm, hb⟩ := mark_world s w
  have s1 : (w.alloc (.cells #[.string s] 9)).heap.size = w.heap.size + 1 := World.size_alloc _ _
  have s2 : ((w.alloc (.cells #[.string s] 9)).alloc (.cells (tokC Lx.no) 78)).heap.size = w.heap.size + 2 := by rw [World.size_alloc, s1]
  have cM := marks13_any ((w.alloc (.cells #[.string s] 9)).alloc (.cells (tokC Lx.no) 78))
  rw [s2] at cM
  have cI := index13_any s w.heap.size (w.heap.size + 2) _ c0 rm
  generalize hwq : ((w.alloc (.cells #[.string s] 9)).alloc (.cells (tokC Lx.no) 78)).alloc (.cells marksV.toArray 9) = wq at *
  have H := Lib.hid (And.intro cM (And.intro cI (And.intro ra (And.intro hb rm))))
  clear cM cI hwq s1 s2 c0 ra rm hb
  go_enter Tryz.func85, Tryz.ntmps85
  go_wp2_with fail
  refine H.out.1.mono ?_
  rintro e w1 ⟨rfl, rfl⟩
  go_wp2_with fail
  refine H.out.2.1.mono ?_
  rintro e w2 ⟨hw2, hr⟩
  obtain rfl := hw2.symm; clear hw2
  rcases hr with ⟨k, hkl, rfl, hN, hP⟩ | ⟨rfl, hN⟩
  · have hp := noMark_hit hN hkl hP
    have hcq := marks_cell H.out.2.2.2.2 k hkl
    have hk16 : k < 16 := hkl
    have hp2 : Lx.markT s.data.toList = (⟨4, Lx.mk (Lx.marks[k]'hkl), 0, 0⟩, (Lx.mk (Lx.marks[k]'hkl)).size, 0) := hp.trans (by rw [mk_size])
    clear hp
    have HP := Lib.hid hp2
    generalize Lx.mk (Lx.marks[k]'hkl) = X at *
    clear hN hP hkl hp2
    have hra : RowV w1 (w.heap.size + 1) 78 (tokC Lx.no).toList := H.out.2.2.1
    have ra : RowV w1.drew (w.heap.size + 1) 78 (tokC Lx.no).toList := hra
    have hb := H.out.2.2.2.1
    go_wp2_with fail
    refine wp_region_plan (S := fun wx => wx.cell? ⟨w.heap.size + 2, k, none⟩ = some (.string X)) 11 [(true, 0), (true, 1), (true, 2), (true, 3), (true, 4), (true, 5), (true, 6), (true, 7), (true, 8), (true, 9), (false, 10)] (by kernel_rfl) (fun _ d _ _ _ h => by cases d <;> exact h) (by kernel_rfl) hcq ?_
    refine wpPlan_step (i := 0) rfl ?_
    apply Exists.intro
    refine ⟨⟨by rfl, fun wx hSx => ?_⟩, ?_⟩
    · obtain hcx := hSx
      go_simp
      with_reducible rfl
    simp only [Act.put, List.setIfInBounds_toArray, List.set_cons_zero, List.set_cons_succ]
    refine wpPlan_step (i := 1) rfl ?_
    apply Exists.intro
    refine ⟨⟨by rfl, fun wx hSx => ?_⟩, ?_⟩
    · obtain hcx := hSx
      go_simp
      with_reducible rfl
    simp only [Act.put, List.setIfInBounds_toArray, List.set_cons_zero, List.set_cons_succ]
    refine wpPlan_step (i := 2) rfl ⟨(.pointer (some ⟨w.heap.size + 2, k, none⟩)), ⟨by rfl, fun wx hSx => ?_⟩, ?_⟩
    · obtain hcx := hSx
      go_simp; try exact fun hx => absurd hx (by omega)
    simp only [Act.put, List.setIfInBounds_toArray, List.set_cons_zero, List.set_cons_succ]
    refine wpPlan_step (i := 3) rfl ⟨(.string X), ⟨by rfl, fun wx hSx => ?_⟩, ?_⟩
    · obtain hcx := hSx
      go_simp
    simp only [Act.put, List.setIfInBounds_toArray, List.set_cons_zero, List.set_cons_succ]
    refine wpPlan_step (i := 4) rfl ⟨(.agg #[.int .i64 4, .string X, .int .i64 0, .int .i64 0]), ⟨by rfl, fun wx hSx => ?_⟩, ?_⟩
    · obtain hcx := hSx
      go_simp
    simp only [Act.put, List.setIfInBounds_toArray, List.set_cons_zero, List.set_cons_succ]
    refine wpPlan_step (i := 5) rfl ?_
    apply Exists.intro
    refine ⟨⟨by rfl, fun wx hSx => ?_⟩, ?_⟩
    · obtain hcx := hSx
      go_simp
      with_reducible rfl
    simp only [Act.put, List.setIfInBounds_toArray, List.set_cons_zero, List.set_cons_succ]
    refine wpPlan_step (i := 6) rfl ?_
    apply Exists.intro
    refine ⟨⟨by rfl, fun wx hSx => ?_⟩, ?_⟩
    · obtain hcx := hSx
      go_simp
      with_reducible rfl
    simp only [Act.put, List.setIfInBounds_toArray, List.set_cons_zero, List.set_cons_succ]
    refine wpPlan_step (i := 7) rfl ⟨(.pointer (some ⟨w.heap.size + 2, k, none⟩)), ⟨by rfl, fun wx hSx => ?_⟩, ?_⟩
    · obtain hcx := hSx
      go_simp; try exact fun hx => absurd hx (by omega)
    simp only [Act.put, List.setIfInBounds_toArray, List.set_cons_zero, List.set_cons_succ]
    refine wpPlan_step (i := 8) rfl ⟨(.string X), ⟨by rfl, fun wx hSx => ?_⟩, ?_⟩
    · obtain hcx := hSx
      go_simp
    simp only [Act.put, List.setIfInBounds_toArray, List.set_cons_zero, List.set_cons_succ]
    refine wpPlan_step (i := 9) rfl ⟨(.int .i64 (X.size : Int)), ⟨by rfl, fun wx hSx => ?_⟩, ?_⟩
    · obtain hcx := hSx
      go_simp
    simp only [Act.put, List.setIfInBounds_toArray, List.set_cons_zero, List.set_cons_succ]
    have r4 := rowV_row ra [.int .i64 4, .string X, .int .i64 0, .int .i64 0]
    have o4 : Only (fun j => j = w.heap.size + 1) w1.drew (w1.drew.setRow (w.heap.size + 1) [.int .i64 4, .string X, .int .i64 0, .int .i64 0].toArray) := ⟨rfl, rfl, rfl, by simp [World.setRow], fun j _ hj => setRow_far _ _ j _ hj⟩
    refine wpPlan_keep (i := 10) rfl (by rfl) fun K hK => wp_store_row 78 (.tmp 2) (.tmp 18) rfl (w.heap.size + 1) #[.int .i64 4, .string X, .int .i64 0, .int .i64 0] rfl rfl 78 _ ra info_tok rfl tok_one4 (hK _ _ ((o4.cell (World.block_lt_of_cell? _ _ hcq) (by show ¬ w.heap.size + 2 = w.heap.size + 1; omega)).trans hcq) ?_)
    simp only [Act.put]
    have hb4 := Lib.hid ((hb.trans (Below.refl w.heap.size w1).drew).trans ((o4.below (B := w.heap.size) (fun j _ e => by omega) (by have := rowV_lt ra; omega))))
    have HR4 := Lib.hid r4
    clear hra ra hb r4 o4
    show wpList _ _ _ _ _ _
    simp only [List.drop_succ_cons, List.drop_zero]
    go_wp2_with fail
    rw [HP.out]
    exact bodyPost_ret (v := .tuple #[tokV ⟨4, X, 0, 0⟩, .int .i64 (X.size : Int), .int .i64 0]) (results_tok (p := 2) (u := 3) (x := 4) rfl _ _ (w.heap.size + 1) ⟨4, X, 0, 0⟩ rfl HR4.out) rfl ⟨rfl, hb4.out⟩
  · have HE := Lib.hid (noMark_end hN)
    obtain ⟨a0, a1, a2, a3, g0, g1, g2, g3⟩ := tok_cells H.out.2.2.1
    clear hN
    go_wp2_with fail
    rw [HE.out]
    refine bodyPost_ret (v := .tuple #[tokV Lx.no, .int .i64 0, .int .i64 11]) (results_tok (p := 2) (u := 3) (x := 4) rfl _ _ (w.heap.size + 1) Lx.no rfl (tok_put (v := Lx.no) H.out.2.2.1 0 Vl.mt 0 0).1) rfl ⟨rfl, ?_⟩
    exact H.out.2.2.2.1.trans ((tok_put (v := Lx.no) H.out.2.2.1 0 Vl.mt 0 0).2 _ (Nat.le_succ _))
set_option maxRecDepth 100000 in
set_option maxHeartbeats 6400000 in
theorem first13_any (s : ByteArray) (w : World) (hs : s.size ≤ 1000000) (hE : ErrR w) :
    Calls Tryz.prog 55 #[.string s] w fun e w' => e = .returned (.tuple #[tokV (Lx.one s.data.toList).1, .int .i64 ((Lx.one s.data.toList).2.1 : Nat), .int .i64 (Lx.one s.data.toList).2.2]) ∧ Below w.heap.size w w' := by
  obtain ⟨r0, b0, s0⟩ := tok_new Lx.no w
  have hE1 := errR_below hE b0
  clear hE
  by_cases h0 : 0 < s.size
  · have hone := Lx.one_cons s[0] (s.data.toList.drop 1)
    rw [← drop_next s 0 h0, List.drop_zero] at hone
    rw [hone]
    clear hone
    have e0 : (s.toList == []) = false := by
      have hl : s.toList.length = s.size := by rw [ByteArray.toList_eq, Array.length_toList]; rfl
      cases hh : s.toList with
      | nil => rw [hh] at hl; simp at hl; omega
      | cons a l => rfl
    have e1 : s.toList.isEmpty = false := by simpa using e0
    clear e0
    have cL := fun w => letter13_any s[0] w
    have cD := fun w => digit13_any s[0] w
    have hsm : s.size ≤ maxLen := by unfold maxLen; omega
    cases hL : Lx.letter s[0] with
    | true =>
      rw [hL] at cL
      rw [if_pos rfl]
      have cN := fun w => name13_any s w hsm h0 hL
      generalize (Lx.nameT s.data.toList).2.1 = N at *
      generalize (Lx.nameT s.data.toList).2.2 = E at *
      generalize (Lx.nameT s.data.toList).1 = V at *
      have H := Lib.hid (And.intro (And.intro cL cN) (And.intro r0 (And.intro b0 s0)))
      clear cL cD cN r0 b0 s0 hL hsm hE1
      go_enter Tryz.func55, Tryz.ntmps55
      go_wp2_with (first | (go_at_call 80; refine (H.out.1.1 _).mono ?_; rintro e w1 ⟨rfl, rfl⟩))
      refine (H.out.1.2 _).mono ?_
      rintro e w2 ⟨rfl, hb2⟩
      have ra := rowV_below H.out.2.1 hb2 (by rw [World.size_alloc]; omega)
      have hb := H.out.2.2.1.trans (hb2.mono (by rw [World.size_alloc]; omega))
      obtain ⟨tk, ts, tn, ta⟩ := V
      obtain ⟨a0, a1, a2, a3, g0, g1, g2, g3⟩ := tok_cells ra
      have L := Lib.hid (And.intro ra hb)
      clear ra hb hb2
      go_wp2_with fail
      refine bodyPost_ret (v := .tuple #[tokV ⟨tk, ts, tn, ta⟩, .int .i64 (N : Int), .int .i64 E]) (results_tok (p := 2) (u := 3) (x := 4) rfl _ _ w.heap.size ⟨tk, ts, tn, ta⟩ rfl (tok_put (v := Lx.no) L.out.1 tk ts tn ta).1) rfl ⟨rfl, ?_⟩
      exact L.out.2.trans ((tok_put L.out.1 tk ts tn ta).2 _ (Nat.le_refl _))
    | false =>
      rw [hL] at cL
      rw [if_neg (by simp)]
      cases hD : Lx.digit s[0] with
      | true =>
        rw [hD] at cD
        rw [if_pos rfl]
        have cN := number13_any s (w.alloc (.cells (tokC Lx.no) 78)) hs h0 hD hE1
        generalize (Lx.numT s.data.toList).2.1 = N at *
        generalize (Lx.numT s.data.toList).2.2 = E at *
        generalize (Lx.numT s.data.toList).1 = V at *
        have H := Lib.hid (And.intro (And.intro cL (And.intro cD cN)) (And.intro r0 (And.intro b0 s0)))
        clear cL cD cN r0 b0 s0 hL hsm hD hE1
        go_enter Tryz.func55, Tryz.ntmps55
        go_wp2_with (first | (go_at_call 80; refine (H.out.1.1 _).mono ?_; rintro e w1 ⟨rfl, rfl⟩) | (go_at_call 82; refine (H.out.1.2.1 _).mono ?_; rintro e w1 ⟨rfl, rfl⟩))
        refine H.out.1.2.2.mono ?_
        rintro e w2 ⟨rfl, hb2⟩
        have ra := rowV_below H.out.2.1 hb2 (by rw [World.size_alloc]; omega)
        have hb := H.out.2.2.1.trans (hb2.mono (by rw [World.size_alloc]; omega))
        obtain ⟨tk, ts, tn, ta⟩ := V
        obtain ⟨a0, a1, a2, a3, g0, g1, g2, g3⟩ := tok_cells ra
        have L := Lib.hid (And.intro ra hb)
        clear ra hb hb2
        go_wp2_with fail
        refine bodyPost_ret (v := .tuple #[tokV ⟨tk, ts, tn, ta⟩, .int .i64 (N : Int), .int .i64 E]) (results_tok (p := 2) (u := 3) (x := 4) rfl _ _ w.heap.size ⟨tk, ts, tn, ta⟩ rfl (tok_put (v := Lx.no) L.out.1 tk ts tn ta).1) rfl ⟨rfl, ?_⟩
        exact L.out.2.trans ((tok_put L.out.1 tk ts tn ta).2 _ (Nat.le_refl _))
      | false =>
        rw [hD] at cD
        rw [if_neg (by simp)]
        by_cases h34 : s[0] = 34
        · rw [if_pos h34]
          have t1 : ((s[0].toNat : Int) == 34) = true := by rw [h34]; rfl
          have cN := fun w => text13_any s w hs
          generalize (Lx.txtT s.data.toList).2.1 = N at *
          generalize (Lx.txtT s.data.toList).2.2 = E at *
          generalize (Lx.txtT s.data.toList).1 = V at *
          have H := Lib.hid (And.intro (And.intro cL (And.intro cD cN)) (And.intro r0 (And.intro b0 s0)))
          clear cL cD cN r0 b0 s0 hL hsm hD h34 hE1
          go_enter Tryz.func55, Tryz.ntmps55
          go_wp2_with (first | (go_at_call 80; refine (H.out.1.1 _).mono ?_; rintro e w1 ⟨rfl, rfl⟩) | (go_at_call 82; refine (H.out.1.2.1 _).mono ?_; rintro e w1 ⟨rfl, rfl⟩))
          refine (H.out.1.2.2 _).mono ?_
          rintro e w2 ⟨rfl, hb2⟩
          have ra := rowV_below H.out.2.1 hb2 (by rw [World.size_alloc]; omega)
          have hb := H.out.2.2.1.trans (hb2.mono (by rw [World.size_alloc]; omega))
          obtain ⟨tk, ts, tn, ta⟩ := V
          obtain ⟨a0, a1, a2, a3, g0, g1, g2, g3⟩ := tok_cells ra
          have L := Lib.hid (And.intro ra hb)
          clear ra hb hb2
          go_wp2_with fail
          refine bodyPost_ret (v := .tuple #[tokV ⟨tk, ts, tn, ta⟩, .int .i64 (N : Int), .int .i64 E]) (results_tok (p := 2) (u := 3) (x := 4) rfl _ _ w.heap.size ⟨tk, ts, tn, ta⟩ rfl (tok_put (v := Lx.no) L.out.1 tk ts tn ta).1) rfl ⟨rfl, ?_⟩
          exact L.out.2.trans ((tok_put L.out.1 tk ts tn ta).2 _ (Nat.le_refl _))
        · rw [if_neg h34]
          have t1 : ((s[0].toNat : Int) == 34) = false := by
            have : ¬ s[0].toNat = 34 := fun e => h34 (UInt8.toNat_inj.1 e)
            simp; omega
          have cN := fun w => mark13_any s w
          generalize (Lx.markT s.data.toList).2.1 = N at *
          generalize (Lx.markT s.data.toList).2.2 = E at *
          generalize (Lx.markT s.data.toList).1 = V at *
          have H := Lib.hid (And.intro (And.intro cL (And.intro cD cN)) (And.intro r0 (And.intro b0 s0)))
          clear cL cD cN r0 b0 s0 hL hsm hD h34 hE1
          go_enter Tryz.func55, Tryz.ntmps55
          go_wp2_with (first | (go_at_call 80; refine (H.out.1.1 _).mono ?_; rintro e w1 ⟨rfl, rfl⟩) | (go_at_call 82; refine (H.out.1.2.1 _).mono ?_; rintro e w1 ⟨rfl, rfl⟩))
          refine (H.out.1.2.2 _).mono ?_
          rintro e w2 ⟨rfl, hb2⟩
          have ra := rowV_below H.out.2.1 hb2 (by rw [World.size_alloc]; omega)
          have hb := H.out.2.2.1.trans (hb2.mono (by rw [World.size_alloc]; omega))
          obtain ⟨tk, ts, tn, ta⟩ := V
          obtain ⟨a0, a1, a2, a3, g0, g1, g2, g3⟩ := tok_cells ra
          have L := Lib.hid (And.intro ra hb)
          clear ra hb hb2
          go_wp2_with fail
          refine bodyPost_ret (v := .tuple #[tokV ⟨tk, ts, tn, ta⟩, .int .i64 (N : Int), .int .i64 E]) (results_tok (p := 2) (u := 3) (x := 4) rfl _ _ w.heap.size ⟨tk, ts, tn, ta⟩ rfl (tok_put (v := Lx.no) L.out.1 tk ts tn ta).1) rfl ⟨rfl, ?_⟩
          exact L.out.2.trans ((tok_put L.out.1 tk ts tn ta).2 _ (Nat.le_refl _))
  · have hm : s = Vl.mt := by
      apply Sl.ba_ext
      exact List.eq_nil_of_length_eq_zero (by rw [Array.length_toList]; show s.size = 0; omega)
    subst hm
    have H := Lib.hid (And.intro r0 b0)
    clear r0 b0 s0 hE1
    go_enter Tryz.func55, Tryz.ntmps55
    go_wp2_with fail
    exact bodyPost_ret (v := .tuple #[tokV Lx.no, .int .i64 0, .int .i64 11]) (results_tok (p := 2) (u := 3) (x := 4) rfl _ _ w.heap.size Lx.no rfl H.out.1) rfl ⟨rfl, H.out.2⟩
end Go.Proofs.YtmkllibfblacfaaGreatDoor

/-
  Closed facts of the translation that more than one text uses.
-/
namespace Go.Proofs.YtmkllibfblacfaaGreatDoor
open Go.RowKit
end Go.Proofs.YtmkllibfblacfaaGreatDoor

/-
  Layer 4: blocks as arrays of 512 bytes: their cells; elements of many cells in a row; two arrays held against one another.
-/
namespace Go.Proofs.YtmkllibfblacfaaGreatDoor
open Go.RowKit

/-! elements of k cells each, one behind the other -/
section
variable {α : Type} (f : α → List Value) (k : Nat)
theorem flat_at (bs : List α) (h : ∀ b ∈ bs, (f b).length = k) (i : Nat) (hi : i < bs.length) (j : Nat) (hj : j < k) : (bs.flatMap f)[i * k + j]? = (f bs[i])[j]? := by
  induction bs generalizing i with
  | nil => simp at hi
  | cons b bs ih =>
    have hb := h b (by simp)
    rw [List.flatMap_cons]
    cases i with
    | zero => rw [List.getElem?_append_left (by omega)]; simp
    | succ i =>
      rw [List.getElem?_append_right (by rw [hb, Nat.add_mul]; omega), hb, show (i + 1) * k + j - k = i * k + j by rw [Nat.add_mul]; omega]
      exact ih (fun x hx => h x (by simp [hx])) i (by simpa using hi)
end
/-! two arrays of bytes held against one another -/
end Go.Proofs.YtmkllibfblacfaaGreatDoor

/-
  A list in memory that is appended to: its elements of k cells each, one behind the other; what lies behind its length is its own.
-/
namespace Go.Proofs.YtmkllibfblacfaaGreatDoor
open Go.RowKit

section
variable {α : Type} (f : α → List Value) (k : Nat) (E : TypeId)
variable {f k E} {w w' : World} {S S' Av Av' : Nat → Prop} {la : Option Addr} {cap : Nat} {W : List α}
end
end Go.Proofs.YtmkllibfblacfaaGreatDoor

/-
  Lists that a call makes, of elements of k cells each (told by f): one element more; read.
-/
namespace Go.Proofs.YtmkllibfblacfaaGreatDoor
open Go.RowKit
/-- what an append asks of the elements' type -/
def ElemOk (P : Program) (E k bytes : Nat) : Prop := ∃ i z, P.info? E = some i ∧ i.zero = some z ∧ i.size = k ∧ i.bytes = bytes ∧ z.cells.size = k ∧ 0 < k ∧ bytes ≤ 1000
theorem elemOk_of {P : Program} {E k bytes : Nat} {z : Value} (h : (P.info? E).map (fun i => (i.zero, i.size, i.bytes)) = some (some z, k, bytes)) (hz : z.cells.size = k) (hk : 0 < k) (hb : bytes ≤ 1000) : ElemOk P E k bytes := by
  obtain ⟨i, hi, e⟩ := Option.map_eq_some_iff.1 h
  simp only [Prod.mk.injEq] at e
  exact ⟨i, z, hi, e.1, e.2.1, e.2.2, hz, hk, hb⟩
section
variable {α : Type} {f : α → List Value} {E k bytes : Nat} {P : Program} {w : World} {B : Nat}
/-- the slice v, its row from block B on, holds the elements l -/
def OwL (f : α → List Value) (E k : Nat) (w : World) (B : Nat) (v : Value) (l : List α) : Prop := w.ownsRow B E k v l.length (l.flatMap f)
theorem owL_nil (w : World) : OwL f E k w B (.slice none 0 0) [] := World.ownsRow_nil _ _ _ _
theorem owL_below {w' : World} {v : Value} {l : List α} (h : OwL f E k w B v l) (hb : Below w.heap.size w w') : OwL f E k w' B v l :=
  ownsRow_only h (Only.of_none (F := fun _ => False) hb) fun _ _ x => x
theorem owL_only {F : Nat → Prop} {w' : World} {v : Value} {l : List α} (h : OwL f E k w B v l) (ho : Only F w w') (hn : ∀ j, v.ownBlock = some j → ¬ F j) : OwL f E k w' B v l := ownsRow_only h ho hn
theorem owL_lt {v : Value} {l : List α} (h : OwL f E k w B v l) : ∀ j, v.ownBlock = some j → B ≤ j ∧ j < w.heap.size := World.ownsRow.lt h
theorem owL_form {v : Value} {l : List α} (h : OwL f E k w B v l) : ∃ a c, v = .slice a l.length c ∧ l.length ≤ c ∧ c ≤ maxLen ∧ (∀ x, a = some x → ∃ g, x = ⟨g, 0, none⟩ ∧ B ≤ g ∧ g < w.heap.size ∧ v.ownBlock = some g) ∧ (a = none → l = []) := by
  rcases h.2 with ⟨rfl, h0⟩ | ⟨g, cap, cur, rfl, hb, hh, u1, u2, u3, u4⟩
  · have : l = [] := List.eq_nil_of_length_eq_zero h0
    subst this
    exact ⟨none, 0, rfl, Nat.le_refl _, Nat.zero_le _, ⟨fun x e => (by cases e), fun _ => rfl⟩⟩
  · exact ⟨_, _, rfl, u1, u2, fun x e => (by cases e; exact ⟨g, rfl, hb, (Array.getElem?_eq_some_iff.1 hh).1, rfl⟩), fun e => (by cases e)⟩
/-- cell j of element i -/
theorem owL_cell {v : Value} {l : List α} (hf : ∀ x ∈ l, (f x).length = k) (h : OwL f E k w B v l) (i : Nat) (hi : i < l.length) : ∃ g c, v = .slice (some ⟨g, 0, none⟩) l.length c ∧ ∀ j u, (f l[i])[j]? = some u → w.cell? ⟨g, i * k + j, none⟩ = some u ∧ w.frozen? ⟨g, i * k + j, none⟩ = false := by
  rcases h.2 with ⟨rfl, h0⟩ | ⟨g, cap, cur, rfl, hb, hh, u1, u2, u3, u4⟩
  · omega
  · refine ⟨g, cap, rfl, fun j u hj => ?_⟩
    have hrow : RowV w g E cur.toList := hh
    have hjk : j < k := by rw [← hf _ (List.getElem_mem hi)]; exact (List.getElem?_eq_some_iff.1 hj).1
    refine ⟨?_, rowV_frozen hrow _⟩
    have h1 := flat_at f k l hf i hi j hjk
    have hlt : i * k + j < l.length * k := by
      have := Nat.mul_le_mul_right k (show i + 1 ≤ l.length from hi)
      rw [Nat.add_mul, Nat.one_mul] at this
      omega
    have h2 : (cur.toList.take (l.length * k))[i * k + j]? = cur.toList[i * k + j]? := by rw [List.getElem?_take, if_pos hlt]
    rw [rowV_cell hrow, ← h2, u4, h1]
    exact hj
/-- one element more, as an operation of a walk: its box at block N -/
theorem wpList_append_one (he : ElemOk P E k bytes) {ops : Array Oper} {rest : List Oper} {o : Oper} {a : Act} {Q : Exit → Act → World → Prop} (hgd : o.guard = none) (s x : Operand) (t : TypeId)
    (ho : o.op = .call { callee := .builtin .append, args := #[s, x], argTypes := #[t, t] }) (ht : P.underlying t = some (.slice E)) (v : Value) (l : List α) (y : α) (hs : a.eval s = v) (hown : OwL f E k w B v l) (N c : Nat) (hx : a.eval x = .slice (some ⟨N, 0, none⟩) 1 c)
    (hN : RowV w N E (f y)) (hfl : (f y).length = k) (h1 : ∀ u ∈ f y, u.oneCell' = true) (hl : l.length ≤ 1000000) (hB : B ≤ w.heap.size)
    (h : ∀ g cap w', OwL f E k w' B (.slice (some ⟨g, 0, none⟩) (l.length + 1) cap) (l ++ [y]) → Only (fun j => v.ownBlock = some j) w w' → (v.ownBlock = some g ∨ g = w.heap.size) → g < w'.heap.size → wpList P ops Q rest (a.put o.dst (.slice (some ⟨g, 0, none⟩) (l.length + 1) cap)) w') :
    wpList P ops Q (o :: rest) a w := by
  obtain ⟨i, z, hi, hz, hsz, hby, hzs, hk, hb⟩ := he
  refine wpList_append_lies w hgd s x t ho B E i z k bytes ht hi hz hsz hby hzs hk v l.length (l.flatMap f) hs hown ⟨N, 0, none⟩ 1 c (f y) hx (by rw [hfl, Nat.one_mul]) (fun j u hj => by rw [Addr.add_mid, Nat.zero_add, rowV_cell hN]; exact hj) h1 (by omega) (by unfold maxLen; omega) ?_ hB _ rfl ?_
  · have := Nat.mul_le_mul (show l.length + 1 ≤ 1000001 by omega) hb
    omega
  · intro g cap w' h2 h3 h4 h5
    refine h g cap w' ?_ ((Only.refl _ w).grown h3 fun j _ e => e) h4 h5
    unfold OwL
    rw [List.flatMap_append, List.length_append]
    simpa using h2
end
end Go.Proofs.YtmkllibfblacfaaGreatDoor

/-
  '[]T{x}': a slice of one element, of k cells, made: as a run, as an operation that keeps its class.
-/
namespace Go.Proofs.YtmkllibfblacfaaGreatDoor
open Go.RowKit
section
variable {P : Program} {E k bytes : Nat}
theorem run_slice_one (he : ElemOk P E k bytes) (hk1 : k ≤ 1000) {t : TypeId} (ht : P.underlying t = some (.slice E)) (w : World) (x : Value) (X : Array Value) (hX : x.cells = X) (hsz : X.size = k) : (Instr.buildSlice t 1 #[(0, x)]).run P w = .ok (.slice (some ⟨w.heap.size, 0, none⟩) 1 1) (w.alloc (.cells X E)) := by
  obtain ⟨i, z, hi, hz, hs, hby, hzs, hk, hb⟩ := he
  refine run_buildSlice w t E 1 _ X i z ht hi hz (by rw [hs]; omega) (by rw [hs]; omega) ?_
  have e := Great.fill_whole (s := i.size) (by rw [hs]; omega) [x] ((Array.range (1 * i.size)).map (z.cells[· % z.cells.size]!)) (by intro v hv; rw [List.mem_singleton] at hv; subst hv; rw [hs, hX]; exact hsz) (by simp)
  simp only [List.zipIdx_cons, List.zipIdx_nil, List.map_cons, List.map_nil, List.flatMap_cons, List.flatMap_nil, List.append_nil, hX, Array.toArray_toList] at e
  exact e
theorem wp_slice_one (he : ElemOk P E k bytes) (hk1 : k ≤ 1000) {t : TypeId} (ht : P.underlying t = some (.slice E)) {o : Oper} {a : Act} {w : World} {K : Act → World → Prop} {Q : Exit → Act → World → Prop} (x : Operand) (ho : o.op = .buildSlice t 1 #[(0, x)]) (v : Value) (X : Array Value) (hx : a.eval x = v) (hX : v.cells = X) (hsz : X.size = k)
    (h : K (a.put o.dst (.slice (some ⟨w.heap.size, 0, none⟩) 1 1)) (w.alloc (.cells X E))) : Oper.wp P o a w K Q := by
  unfold Oper.wp execOp
  have e : (#[(0, x)] : Array (Nat × Operand)).map (fun (i, x) => (i, a.eval x)) = #[(0, v)] := by rw [← hx]; simp
  simp only [ho, e, Sem.run_bind, run_slice_one he hk1 ht w v X hX hsz, Result.andThen_ok]
  exact h
end
end Go.Proofs.YtmkllibfblacfaaGreatDoor

/-
  Layer 13: the document's tokens of a text.
-/
namespace Go.Proofs.YtmkllibfblacfaaGreatDoor
open Go.RowKit
/-- a slice of tokens, read -/
def ReadsT13 (w : World) (a : Option Addr) (L : List Lx.T) : Prop := ∀ i (h : i < L.length), ∃ b off, a = some ⟨b, off, none⟩ ∧ w.cell? ⟨b, off + i * 4, none⟩ = some (.int .i64 L[i].kind) ∧ w.cell? ⟨b, off + i * 4 + 1, none⟩ = some (.string L[i].s) ∧ w.cell? ⟨b, off + i * 4 + 2, none⟩ = some (.int .i64 L[i].n) ∧ w.cell? ⟨b, off + i * 4 + 3, none⟩ = some (.int .i64 L[i].spot)
end Go.Proofs.YtmkllibfblacfaaGreatDoor

/-
  Layer 13, the program's: the tokens of a text.
-/
namespace Go.Proofs.YtmkllibfblacfaaGreatDoor
open Go.RowKit
end Go.Proofs.YtmkllibfblacfaaGreatDoor

/-
  Layer 13, the program's: reserved words, and names.
-/
namespace Go.Proofs.YtmkllibfblacfaaGreatDoor
open Go.RowKit
theorem res_ne {s : ByteArray} {m : List UInt8} (h : ¬ s = ⟨m.toArray⟩) : (s.toList == m) = false := by
  have h2 : ¬ s.toList = m := fun e => h (Sl.ba_ext (by rw [← ByteArray.toList_eq, e]))
  simpa using h2
set_option maxRecDepth 100000 in
set_option maxHeartbeats 1600000 in
theorem res13_0 (w : World) : Calls Tryz.prog 98 #[.string ⟨#[97, 110, 100]⟩] w fun e w' => e = .returned (.bool (Lx.reserved (⟨#[97, 110, 100]⟩ : ByteArray).data.toList)) ∧ w' = w := by
  have HE : Hid (Lx.reserved (⟨#[97, 110, 100]⟩ : ByteArray).data.toList = true) := Lib.hid (by decide)
  go_enter Tryz.func98, Tryz.ntmps98
  go_wp2_with fail
  go_ret
  exact ⟨ret_bool HE.out.symm, rfl⟩
set_option maxRecDepth 100000 in
set_option maxHeartbeats 1600000 in
theorem res13_1 (w : World) : Calls Tryz.prog 98 #[.string ⟨#[111, 114]⟩] w fun e w' => e = .returned (.bool (Lx.reserved (⟨#[111, 114]⟩ : ByteArray).data.toList)) ∧ w' = w := by
  have HE : Hid (Lx.reserved (⟨#[111, 114]⟩ : ByteArray).data.toList = true) := Lib.hid (by decide)
  go_enter Tryz.func98, Tryz.ntmps98
  go_wp2_with fail
  go_ret
  exact ⟨ret_bool HE.out.symm, rfl⟩
set_option maxRecDepth 100000 in
set_option maxHeartbeats 1600000 in
theorem res13_2 (w : World) : Calls Tryz.prog 98 #[.string ⟨#[110, 111, 116]⟩] w fun e w' => e = .returned (.bool (Lx.reserved (⟨#[110, 111, 116]⟩ : ByteArray).data.toList)) ∧ w' = w := by
  have HE : Hid (Lx.reserved (⟨#[110, 111, 116]⟩ : ByteArray).data.toList = true) := Lib.hid (by decide)
  go_enter Tryz.func98, Tryz.ntmps98
  go_wp2_with fail
  go_ret
  exact ⟨ret_bool HE.out.symm, rfl⟩
set_option maxRecDepth 100000 in
set_option maxHeartbeats 1600000 in
theorem res13_3 (w : World) : Calls Tryz.prog 98 #[.string ⟨#[105, 102]⟩] w fun e w' => e = .returned (.bool (Lx.reserved (⟨#[105, 102]⟩ : ByteArray).data.toList)) ∧ w' = w := by
  have HE : Hid (Lx.reserved (⟨#[105, 102]⟩ : ByteArray).data.toList = true) := Lib.hid (by decide)
  go_enter Tryz.func98, Tryz.ntmps98
  go_wp2_with fail
  go_ret
  exact ⟨ret_bool HE.out.symm, rfl⟩
set_option maxRecDepth 100000 in
set_option maxHeartbeats 1600000 in
theorem res13_4 (w : World) : Calls Tryz.prog 98 #[.string ⟨#[116, 104, 101, 110]⟩] w fun e w' => e = .returned (.bool (Lx.reserved (⟨#[116, 104, 101, 110]⟩ : ByteArray).data.toList)) ∧ w' = w := by
  have HE : Hid (Lx.reserved (⟨#[116, 104, 101, 110]⟩ : ByteArray).data.toList = true) := Lib.hid (by decide)
  go_enter Tryz.func98, Tryz.ntmps98
  go_wp2_with fail
  go_ret
  exact ⟨ret_bool HE.out.symm, rfl⟩
set_option maxRecDepth 100000 in
set_option maxHeartbeats 1600000 in
theorem res13_5 (w : World) : Calls Tryz.prog 98 #[.string ⟨#[101, 108, 115, 101]⟩] w fun e w' => e = .returned (.bool (Lx.reserved (⟨#[101, 108, 115, 101]⟩ : ByteArray).data.toList)) ∧ w' = w := by
  have HE : Hid (Lx.reserved (⟨#[101, 108, 115, 101]⟩ : ByteArray).data.toList = true) := Lib.hid (by decide)
  go_enter Tryz.func98, Tryz.ntmps98
  go_wp2_with fail
  go_ret
  exact ⟨ret_bool HE.out.symm, rfl⟩
set_option maxRecDepth 100000 in
set_option maxHeartbeats 1600000 in
theorem res13_6 (w : World) : Calls Tryz.prog 98 #[.string ⟨#[116, 114, 117, 101]⟩] w fun e w' => e = .returned (.bool (Lx.reserved (⟨#[116, 114, 117, 101]⟩ : ByteArray).data.toList)) ∧ w' = w := by
  have HE : Hid (Lx.reserved (⟨#[116, 114, 117, 101]⟩ : ByteArray).data.toList = true) := Lib.hid (by decide)
  go_enter Tryz.func98, Tryz.ntmps98
  go_wp2_with fail
  go_ret
  exact ⟨ret_bool HE.out.symm, rfl⟩
set_option maxRecDepth 100000 in
set_option maxHeartbeats 1600000 in
theorem res13_7 (w : World) : Calls Tryz.prog 98 #[.string ⟨#[102, 97, 108, 115, 101]⟩] w fun e w' => e = .returned (.bool (Lx.reserved (⟨#[102, 97, 108, 115, 101]⟩ : ByteArray).data.toList)) ∧ w' = w := by
  have HE : Hid (Lx.reserved (⟨#[102, 97, 108, 115, 101]⟩ : ByteArray).data.toList = true) := Lib.hid (by decide)
  go_enter Tryz.func98, Tryz.ntmps98
  go_wp2_with fail
  go_ret
  exact ⟨ret_bool HE.out.symm, rfl⟩
set_option maxRecDepth 100000 in
set_option maxHeartbeats 1600000 in
theorem res13_8 (w : World) : Calls Tryz.prog 98 #[.string ⟨#[110, 117, 108, 108]⟩] w fun e w' => e = .returned (.bool (Lx.reserved (⟨#[110, 117, 108, 108]⟩ : ByteArray).data.toList)) ∧ w' = w := by
  have HE : Hid (Lx.reserved (⟨#[110, 117, 108, 108]⟩ : ByteArray).data.toList = true) := Lib.hid (by decide)
  go_enter Tryz.func98, Tryz.ntmps98
  go_wp2_with fail
  go_ret
  exact ⟨ret_bool HE.out.symm, rfl⟩
set_option maxRecDepth 100000 in
set_option maxHeartbeats 3200000 in
theorem reserved13_any (s : ByteArray) (w : World) : Calls Tryz.prog 98 #[.string s] w fun e w' => e = .returned (.bool (Lx.reserved s.data.toList)) ∧ w' = w := by
  by_cases h0 : s = ⟨#[97, 110, 100]⟩
  · subst h0
    exact res13_0 w
  · by_cases h1 : s = ⟨#[111, 114]⟩
    · subst h1
      exact res13_1 w
    · by_cases h2 : s = ⟨#[110, 111, 116]⟩
      · subst h2
        exact res13_2 w
      · by_cases h3 : s = ⟨#[105, 102]⟩
        · subst h3
          exact res13_3 w
        · by_cases h4 : s = ⟨#[116, 104, 101, 110]⟩
          · subst h4
            exact res13_4 w
          · by_cases h5 : s = ⟨#[101, 108, 115, 101]⟩
            · subst h5
              exact res13_5 w
            · by_cases h6 : s = ⟨#[116, 114, 117, 101]⟩
              · subst h6
                exact res13_6 w
              · by_cases h7 : s = ⟨#[102, 97, 108, 115, 101]⟩
                · subst h7
                  exact res13_7 w
                · by_cases h8 : s = ⟨#[110, 117, 108, 108]⟩
                  · subst h8
                    exact res13_8 w
                  · have HE : Hid (Lx.reserved s.data.toList = false) := Lib.hid (decide_eq_false (by
                      intro hm
                      simp only [Lx.words, List.mem_cons, List.not_mem_nil, or_false] at hm
                      rcases hm with hm | hm | hm | hm | hm | hm | hm | hm | hm
                      · exact h0 (Sl.ba_ext hm)
                      · exact h1 (Sl.ba_ext hm)
                      · exact h2 (Sl.ba_ext hm)
                      · exact h3 (Sl.ba_ext hm)
                      · exact h4 (Sl.ba_ext hm)
                      · exact h5 (Sl.ba_ext hm)
                      · exact h6 (Sl.ba_ext hm)
                      · exact h7 (Sl.ba_ext hm)
                      · exact h8 (Sl.ba_ext hm)))
                    have t0 : (s.toList == [97, 110, 100]) = false := res_ne h0
                    have t1 : (s.toList == [111, 114]) = false := res_ne h1
                    have t2 : (s.toList == [110, 111, 116]) = false := res_ne h2
                    have t3 : (s.toList == [105, 102]) = false := res_ne h3
                    have t4 : (s.toList == [116, 104, 101, 110]) = false := res_ne h4
                    have t5 : (s.toList == [101, 108, 115, 101]) = false := res_ne h5
                    have t6 : (s.toList == [116, 114, 117, 101]) = false := res_ne h6
                    have t7 : (s.toList == [102, 97, 108, 115, 101]) = false := res_ne h7
                    have t8 : (s.toList == [110, 117, 108, 108]) = false := res_ne h8
                    clear h0 h1 h2 h3 h4 h5 h6 h7 h8
                    go_enter Tryz.func98, Tryz.ntmps98
                    go_wp2_with fail
                    go_ret
                    exact ⟨ret_bool HE.out.symm, rfl⟩
end Go.Proofs.YtmkllibfblacfaaGreatDoor

/-
  Layer 13, the program's: names.
-/
namespace Go.Proofs.YtmkllibfblacfaaGreatDoor
open Go.RowKit
namespace Lx
theorem numT_kind (l : List UInt8) (h : (numT l).2.2 = 0) : (numT l).1.kind = 2 := by
  revert h; unfold numT; split
  · intro h; exact absurd h (by decide)
  · split
    · intro h; exact absurd h (by decide)
    · intro _; rfl
theorem txtT_kind (l : List UInt8) (h : (txtT l).2.2 = 0) : (txtT l).1.kind = 3 := by
  revert h; unfold txtT; split
  · intro h; exact absurd h (by decide)
  · split
    · intro h; exact absurd h (by decide)
    · intro _; rfl
theorem markT_kind (l : List UInt8) (h : (markT l).2.2 = 0) : (markT l).1.kind = 4 := by
  revert h; unfold markT; split
  · intro _; rfl
  · intro h; exact absurd h (by decide)
theorem nameB_yes {s : ByteArray} (he : (one s.data.toList).2.2 = 0) (hk : (one s.data.toList).1.kind = 1) (hn : (one s.data.toList).2.1 = s.size) : nameB s = !reserved s.data.toList := by
  have hl : s.data.toList.length = s.size := Array.length_toList ..
  unfold nameB
  cases hd : s.data.toList with
  | nil => rw [hd] at he; exact absurd he (by decide)
  | cons c r =>
    rw [hd] at he hk hn
    rw [one_cons] at he hk hn
    by_cases hL : letter c = true
    · rw [if_pos hL] at he hk hn
      revert he hn
      unfold nameT
      split
      · intro _ he; exact absurd he (by decide)
      · rename_i h16
        intro hn _
        have hn : word false (c :: r) = s.size := hn
        have hm : ¬ s = Vl.mt := fun e => by rw [e] at hd; cases hd
        rw [hn, decide_eq_false hm, decide_eq_true rfl, decide_eq_true (show s.size ≤ 16 by omega)]; rfl
    · rw [if_neg hL] at he hk
      by_cases hD : digit c = true
      · rw [if_pos hD] at he hk
        rw [numT_kind _ he] at hk; exact absurd hk (by decide)
      · rw [if_neg hD] at he hk
        by_cases hq : c = 34
        · rw [if_pos hq] at he hk
          rw [txtT_kind _ he] at hk; exact absurd hk (by decide)
        · rw [if_neg hq] at he hk
          rw [markT_kind _ he] at hk; exact absurd hk (by decide)
theorem nameB_no {s : ByteArray} (h : ¬ ((one s.data.toList).2.2 = 0 ∧ (one s.data.toList).1.kind = 1 ∧ (one s.data.toList).2.1 = s.size)) : nameB s = false := by
  cases hB : nameB s with
  | false => rfl
  | true =>
    exfalso
    apply h
    unfold nameB at hB
    simp only [Bool.and_eq_true, Bool.not_eq_true', decide_eq_false_iff_not, decide_eq_true_eq] at hB
    obtain ⟨⟨⟨hm, hw⟩, h16⟩, _⟩ := hB
    cases hd : s.data.toList with
    | nil => exact absurd (Sl.ba_ext (by rw [hd])) hm
    | cons c r =>
      rw [hd] at hw
      have hL : letter c = true := by
        cases hL : letter c with
        | true => rfl
        | false =>
          rw [word, hL] at hw
          have : s.size = 0 := by simpa using hw.symm
          have hl : s.data.toList.length = s.size := Array.length_toList ..
          rw [hd, List.length_cons] at hl
          omega
      rw [one_cons, if_pos hL]
      unfold nameT
      rw [if_neg (by omega)]
      exact ⟨rfl, rfl, hw⟩
end Lx
set_option maxRecDepth 100000 in
set_option maxHeartbeats 6400000 in
theorem Name13_any (s : ByteArray) (w : World) (hs : s.size ≤ 1000000) (hE : ErrR w) :
    Calls Tryz.prog 68 #[.string s] w fun e w' => e = .returned (.bool (Lx.nameB s)) ∧ Below w.heap.size w w' := by
  have hY := Lx.nameB_yes (s := s)
  have hN := Lx.nameB_no (s := s)
  have cF := first13_any s w hs hE
  have cR := fun w => reserved13_any s w
  generalize (Lx.one s.data.toList).2.1 = N at *
  generalize (Lx.one s.data.toList).2.2 = E at *
  generalize (Lx.one s.data.toList).1 = V at *
  obtain ⟨vk, vs, vn, va⟩ := V
  generalize Lx.nameB s = B at *
  generalize Lx.reserved s.data.toList = R at *
  have H := Lib.hid (And.intro cF cR)
  clear cF cR hE
  by_cases he : E = 0
  · have t1 : (E == 0) = true := by simpa using he
    by_cases hk : vk = 1
    · have t2 : (vk == 1) = true := by simpa using hk
      by_cases hn : N = s.size
      · have t3 : ((N : Int) == (s.size : Int)) = true := by simp; omega
        have HR := Lib.hid (hY he hk hn)
        clear hY hN he hk hn
        go_enter Tryz.func68, Tryz.ntmps68
        go_wp2_with fail
        refine H.out.1.mono ?_
        rintro e w1 ⟨rfl, hb1⟩
        obtain ⟨q0, q1, q2⟩ := tok_new ⟨vk, vs, vn, va⟩ w1
        obtain ⟨a0, a1, a2, a3, g0, g1, g2, g3⟩ := tok_cells (v := ⟨vk, vs, vn, va⟩) q0
        have L := Lib.hid (hb1.alloc hb1.size (.cells (tokC ⟨vk, vs, vn, va⟩) 78))
        clear hb1 q0 q1 q2
        go_upto_region 2 with (fail)
        generalize hws : World.alloc w1 _ = ws at *
        go_wp2_with (go_at_call 98; refine (H.out.2 _).mono ?_; rintro e w2 ⟨rfl, rfl⟩)
        go_ret
        exact ⟨ret_bool HR.out.symm, L.out⟩
      · have t3 : ((N : Int) == (s.size : Int)) = false := by simp; omega
        have HR := Lib.hid (hN fun x => hn x.2.2)
        clear hY hN he hk hn
        go_enter Tryz.func68, Tryz.ntmps68
        go_wp2_with fail
        refine H.out.1.mono ?_
        rintro e w1 ⟨rfl, hb1⟩
        obtain ⟨q0, q1, q2⟩ := tok_new ⟨vk, vs, vn, va⟩ w1
        obtain ⟨a0, a1, a2, a3, g0, g1, g2, g3⟩ := tok_cells (v := ⟨vk, vs, vn, va⟩) q0
        have L := Lib.hid (hb1.alloc hb1.size (.cells (tokC ⟨vk, vs, vn, va⟩) 78))
        clear hb1 q0 q1 q2
        go_upto_region 2 with (fail)
        generalize hws : World.alloc w1 _ = ws at *
        go_wp2_with fail
        go_ret
        exact ⟨ret_bool HR.out.symm, L.out⟩
    · have t2 : (vk == 1) = false := by simpa using hk
      have HR := Lib.hid (hN fun x => hk x.2.1)
      clear hY hN he hk
      go_enter Tryz.func68, Tryz.ntmps68
      go_wp2_with fail
      refine H.out.1.mono ?_
      rintro e w1 ⟨rfl, hb1⟩
      obtain ⟨q0, q1, q2⟩ := tok_new ⟨vk, vs, vn, va⟩ w1
      obtain ⟨a0, a1, a2, a3, g0, g1, g2, g3⟩ := tok_cells (v := ⟨vk, vs, vn, va⟩) q0
      have L := Lib.hid (hb1.alloc hb1.size (.cells (tokC ⟨vk, vs, vn, va⟩) 78))
      clear hb1 q0 q1 q2
      go_upto_region 2 with (fail)
      generalize hws : World.alloc w1 _ = ws at *
      go_wp2_with fail
      go_ret
      exact ⟨ret_bool HR.out.symm, L.out⟩
  · have t1 : (E == 0) = false := by simpa using he
    have HR := Lib.hid (hN fun x => he x.1)
    clear hY hN he
    go_enter Tryz.func68, Tryz.ntmps68
    go_wp2_with fail
    refine H.out.1.mono ?_
    rintro e w1 ⟨rfl, hb1⟩
    have L := Lib.hid (hb1.alloc hb1.size (.cells (tokC ⟨vk, vs, vn, va⟩) 78))
    clear hb1
    go_upto_region 2 with (fail)
    generalize hws : World.alloc w1 _ = ws at *
    go_wp2_with fail
    go_ret
    exact ⟨ret_bool HR.out.symm, L.out⟩
end Go.Proofs.YtmkllibfblacfaaGreatDoor

/-
  Layer 14, the program's: the table of ops of two, and the small calls over it.
-/
namespace Go.Proofs.YtmkllibfblacfaaGreatDoor
open Go.RowKit
open Sx (X toksOf isT)
/-- how many parts an op has (0 of what is none) -/
def cntP (op : Int) : Int := if op = 3 then 1 else if 4 ≤ op ∧ op ≤ 15 then 2 else if op = 16 then 3 else 0
set_option maxRecDepth 100000 in
theorem count14_any (op : Int) (w : World) : Calls Tryz.prog 69 #[.int .i64 op] w fun e w' => e = .returned (.int .i64 (cntP op)) ∧ w' = w := by
  unfold cntP
  by_cases h3 : op = 3
  · subst h3
    go_enter Tryz.func69, Tryz.ntmps69
    go_wp2_with fail
    go_ret
    exact ⟨rfl, rfl⟩
  · rw [if_neg h3]
    have t0 : (op == 3) = false := by simpa using h3
    by_cases h4 : 4 ≤ op
    · by_cases h15 : op ≤ 15
      · rw [if_pos ⟨h4, h15⟩]
        go_enter Tryz.func69, Tryz.ntmps69
        go_wp2_with fail
        go_ret
        exact ⟨rfl, rfl⟩
      · rw [if_neg (by omega)]
        by_cases h16 : op = 16
        · subst h16
          go_enter Tryz.func69, Tryz.ntmps69
          go_wp2_with fail
          go_ret
          exact ⟨rfl, rfl⟩
        · rw [if_neg h16]
          have t1 : (op == 16) = false := by simpa using h16
          go_enter Tryz.func69, Tryz.ntmps69
          go_wp2_with fail
          go_ret
          exact ⟨rfl, rfl⟩
    · rw [if_neg (by omega), if_neg (by omega)]
      have t1 : (op == 16) = false := by simp; omega
      go_enter Tryz.func69, Tryz.ntmps69
      go_wp2_with fail
      go_ret
      exact ⟨rfl, rfl⟩
end Go.Proofs.YtmkllibfblacfaaGreatDoor

/-
  Layer 14: how deep an expression is, how many there are in it: the document's.
-/
namespace Go.Proofs.YtmkllibfblacfaaGreatDoor
open Go.RowKit
open Sx (X)
namespace Sx
theorem deep_eq (x : X) : deep x = deepL x.l + 1 := by obtain ⟨_, _, _, _⟩ := x; rw [deep]; rfl
end Sx
/-- the six cells of a box, at every world behind it -/
theorem x_look {x : X} {a : Option Addr} {c : Nat} {w wr : World} (hb : Below (w.alloc (.cells (xC x a c) 43)).heap.size (w.alloc (.cells (xC x a c) 43)) wr) : Cells6 wr w.heap.size 0 x a c ∧ Below w.heap.size w wr :=
  ⟨x_cells (x_box hb).1, (x_box hb).2⟩
end Go.Proofs.YtmkllibfblacfaaGreatDoor

/-
  Layer 12: which values are right, the program's answer and the document's.
-/
namespace Go.Proofs.YtmkllibfblacfaaGreatDoor
open Go.RowKit
/-- a value as a value -/
abbrev valC (v : Vl.V) : Array Value := #[.int .i64 v.kind, .int .i64 v.n, .string v.s]
abbrev valV (v : Vl.V) : Value := .agg (valC v)
/-- the bytes ahead of pos may stand in a text -/
def PlainTo (s : ByteArray) (pos : Nat) : Prop := ∀ b ∈ s.data.toList.take pos, 32 ≤ b.toNat ∧ b.toNat ≤ 126
theorem plainTo_start (s : ByteArray) : PlainTo s 0 := by intro b hb; simp at hb
theorem plainTo_step {s : ByteArray} {pos : Nat} (h : PlainTo s pos) (hp : pos < s.size) (h1 : 32 ≤ (s[pos]).toNat) (h2 : (s[pos]).toNat ≤ 126) : PlainTo s (pos + 1) := by
  intro b hb
  have hl : pos < s.data.toList.length := by simpa using hp
  rw [List.take_add_one, List.getElem?_eq_getElem hl] at hb
  rcases List.mem_append.1 hb with hb | hb
  · exact h b hb
  · simp only [Option.toList_some, List.mem_singleton] at hb
    subst hb
    exact ⟨h1, h2⟩
theorem plainTo_all {s : ByteArray} {pos : Nat} (h : PlainTo s pos) (hp : ¬ pos < s.size) (h40 : s.size ≤ 40) : Vl.plain s := by
  refine ⟨h40, fun b hb => h b ?_⟩
  rw [List.take_of_length_le (by simp; omega)]
  exact hb
theorem plain_not {s : ByteArray} {pos : Nat} (hp : pos < s.size) (h : (s[pos]).toNat < 32 ∨ 126 < (s[pos]).toNat) : ¬ Vl.plain s := by
  intro hh
  have := hh.2 s[pos] (by
    have hl : pos < s.data.toList.length := by simpa using hp
    exact (List.getElem_mem hl : s.data.toList[pos] ∈ s.data.toList))
  omega
theorem below_iter {w : World} (s : ByteArray) (pos : Nat) : Below w.heap.size w (w.iter s pos) := (Below.refl w.heap.size w).alloc (Nat.le_refl _) _
set_option maxRecDepth 100000 in
set_option maxHeartbeats 1600000 in
theorem rightText_any (s : ByteArray) (w : World) :
    Calls Tryz.prog 43 #[.string s] w fun e w' => e = .returned (.bool (decide (Vl.plain s))) ∧ Below w.heap.size w w' := by
  have hbl : Hid (∀ pos, Below w.heap.size w (w.iter s pos)) := Lib.hid fun pos => below_iter s pos
  by_cases h40 : (s.size : Int) > 40
  · go_enter Tryz.func43, Tryz.ntmps43
    go_wp2_with fail
    go_ret
    exact ⟨ret_bool (decide_eq_false (fun hh : Vl.plain s => by have := hh.1; omega)).symm, Below.refl _ _⟩
  · go_enter Tryz.func43, Tryz.ntmps43
    go_wp2
    go_loopw [4] (fun _ w' => ∃ (pos : Nat), w' = w.iter s pos ∧ pos ≤ s.size ∧ Hid (PlainTo s pos)) (fun _ w' => s.size - w'.iterPos w.heap.size)
    case atStart => exact ⟨0, rfl, Nat.zero_le _, Lib.hid (plainTo_start s)⟩
    case round =>
      obtain ⟨pos, rfl, hle, hpl⟩ := hrel
      by_cases hp : pos < s.size
      · by_cases ha : (s[pos]).toNat < 128
        · have hnx : ∀ ty, (Instr.next (.pointer (some ⟨w.heap.size, 0, none⟩)) true ty).run Tryz.prog (w.iter s pos) = _ := fun ty => run_next_ascii w s pos ty hp ha
          by_cases h1 : ((s[pos]).toNat : Int) < 32
          · have hno := Lib.hid (plain_not hp (.inl (by omega)))
            go_wp2_with fail
            go_ret
            exact ⟨ret_bool (decide_eq_false hno.out).symm, hbl.out _⟩
          · by_cases h2 : ((s[pos]).toNat : Int) > 126
            · have hno := Lib.hid (plain_not hp (.inr (by omega)))
              go_wp2_with fail
              go_ret
              exact ⟨ret_bool (decide_eq_false hno.out).symm, hbl.out _⟩
            · go_wp2_with fail
              go_roundw
              case rel => exact ⟨pos + 1, rfl, by omega, Lib.hid (plainTo_step hpl.out hp (by omega) (by omega))⟩
              case measure => simp; omega
        · have hnx : ∀ ty, (Instr.next (.pointer (some ⟨w.heap.size, 0, none⟩)) true ty).run Tryz.prog (w.iter s pos) = _ := fun ty => run_next_any w s pos ty hp
          have hd := (decode_high s pos hp (by omega)).1
          have hno := Lib.hid (plain_not hp (.inr (by omega)))
          have h1 : ¬ ((Utf8.decode s pos).1 : Int) < 32 := by omega
          have h2 : ((Utf8.decode s pos).1 : Int) > 126 := by omega
          go_wp2_with fail
          go_ret
          exact ⟨ret_bool (decide_eq_false hno.out).symm, hbl.out _⟩
      · have hnx : ∀ ty, (Instr.next (.pointer (some ⟨w.heap.size, 0, none⟩)) true ty).run Tryz.prog (w.iter s pos) = _ := fun ty => run_next_end w s pos ty hp
        go_wp2_with fail
        go_ret
        exact ⟨ret_bool (decide_eq_true (plainTo_all hpl.out hp (by omega))).symm, hbl.out _⟩
/-! right -/
/-- what the box of a value leaves -/
theorem below_box {w w' : World} (o : Obj) (h : Below (w.alloc o).heap.size (w.alloc o) w') : Below w.heap.size w w' :=
  ((Below.refl w.heap.size w).alloc (Nat.le_refl _) o).trans (h.mono (by rw [show (w.alloc o).heap.size = w.heap.size + 1 from Array.size_push _]; omega))
theorem mt_iff (s : ByteArray) : s.toList = [] ↔ s = Vl.mt := by
  rw [ByteArray.toList_eq]
  constructor
  · intro h; apply Sl.ba_ext; rw [h]
  · rintro rfl; rfl
theorem isEmp {p : Prop} [Decidable p] {l : List UInt8} (h : p ↔ l = []) : l.isEmpty = decide p := by cases l <;> simp [h]
theorem not_right {k n : Int} {s : ByteArray} (h2 : k ≠ 2 ∨ n ≠ 0) (h0 : k ≠ 0 ∨ n ≠ 0) (h1 : k ≠ 1) (h3 : k ≠ 3 ∨ (n ≠ 0 ∧ n ≠ 1)) : ¬ Vl.right ⟨k, n, s⟩ := by
  intro h
  rcases h with ⟨h, h', _⟩ | ⟨h, _⟩ | ⟨h, h', _⟩ | ⟨h, h', _⟩
  · simp only at h h'; omega
  · simp only at h; omega
  · simp only at h h'; omega
  · simp only at h h'; rcases h' with h' | h' <;> omega
theorem right_mt {k n : Int} {s : ByteArray} (h : (k = 0 ∧ n = 0) ∨ k = 1 ∨ (k = 3 ∧ (n = 0 ∨ n = 1))) : Vl.right ⟨k, n, s⟩ ↔ s.toList = [] := by
  rw [mt_iff]
  constructor
  · intro hr
    rcases hr with ⟨_, _, e⟩ | ⟨_, e⟩ | ⟨h2, _⟩ | ⟨_, _, e⟩
    · exact e
    · exact e
    · simp only at h2; omega
    · exact e
  · intro e
    rcases h with ⟨h, h'⟩ | h | ⟨h, h'⟩
    · exact .inl ⟨h, h', e⟩
    · exact .inr (.inl ⟨h, e⟩)
    · exact .inr (.inr (.inr ⟨h, h', e⟩))
theorem right_txt {s : ByteArray} : Vl.right ⟨2, 0, s⟩ ↔ Vl.plain s := by
  constructor
  · intro h
    rcases h with ⟨h, _⟩ | ⟨h, _⟩ | ⟨_, _, e⟩ | ⟨h, _⟩
    · exact absurd h (by simp)
    · exact absurd h (by simp)
    · exact e
    · exact absurd h (by simp)
  · intro h; exact .inr (.inr (.inl ⟨rfl, rfl, h⟩))
set_option maxRecDepth 100000 in
set_option maxHeartbeats 3200000 in
theorem right12_any (v : Vl.V) (w : World) :
    Calls Tryz.prog 26 #[valV v] w fun e w' => e = .returned (.bool (decide (Vl.right v))) ∧ Below w.heap.size w w' := by
  obtain ⟨k, n, s⟩ := v
  have hb0 : Hid (Below w.heap.size w (w.alloc (.cells #[.int .i64 k, .int .i64 n, .string s] 31))) := Lib.hid ((Below.refl w.heap.size w).alloc (Nat.le_refl _) _)
  have hb1 : Hid (∀ w', Below (w.alloc (.cells #[.int .i64 k, .int .i64 n, .string s] 31)).heap.size (w.alloc (.cells #[.int .i64 k, .int .i64 n, .string s] 31)) w' → Below w.heap.size w w') := Lib.hid fun w' h => below_box _ h
  by_cases k2 : k = 2
  · subst k2
    by_cases n0 : n = 0
    · subst n0
      have R := Lib.hid (right_txt (s := s))
      go_enter Tryz.func26, Tryz.ntmps26
      go_wp2_with (go_at_call 43; refine (rightText_any _ _).mono ?_; rintro e w1 ⟨rfl, hb⟩; have H := Lib.hid hb; clear hb)
      go_ret
      exact ⟨ret_bool (decide_eq_decide.2 R.out.symm), hb1.out _ H.out⟩
    · have R := Lib.hid (not_right (k := 2) (n := n) (s := s) (.inr n0) (.inr n0) (by omega) (by omega))
      have t : (n == 0) = false := by simp; exact n0
      go_enter Tryz.func26, Tryz.ntmps26
      go_wp2_with fail
      go_ret
      exact ⟨ret_bool (decide_eq_false R.out).symm, hb0.out⟩
  · have t2 : (k == 2) = false := by simp; exact k2
    by_cases k0 : k = 0
    · subst k0
      by_cases n0 : n = 0
      · subst n0
        have R := Lib.hid (right_mt (k := 0) (n := 0) (s := s) (.inl ⟨rfl, rfl⟩))
        clear t2 k2
        go_enter Tryz.func26, Tryz.ntmps26
        go_wp2_with fail
        go_ret
        exact ⟨ret_bool (isEmp R.out), hb0.out⟩
      · have R := Lib.hid (not_right (k := 0) (n := n) (s := s) (.inr n0) (.inr n0) (by omega) (by omega))
        have t : (n == 0) = false := by simp; exact n0
        clear t2 k2
        go_enter Tryz.func26, Tryz.ntmps26
        go_wp2_with fail
        go_ret
        exact ⟨ret_bool (decide_eq_false R.out).symm, hb0.out⟩
    · have t0 : (k == 0) = false := by simp; exact k0
      by_cases k3 : k = 3
      · subst k3
        by_cases n0 : n < 0
        · have R := Lib.hid (not_right (k := 3) (n := n) (s := s) (by omega) (by omega) (by omega) (by omega))
          clear t2 k2 k0 t0
          go_enter Tryz.func26, Tryz.ntmps26
          go_wp2_with fail
          go_ret
          exact ⟨ret_bool (decide_eq_false R.out).symm, hb0.out⟩
        · by_cases n1 : n > 1
          · have R := Lib.hid (not_right (k := 3) (n := n) (s := s) (by omega) (by omega) (by omega) (by omega))
            clear t2 k2 k0 t0
            go_enter Tryz.func26, Tryz.ntmps26
            go_wp2_with fail
            go_ret
            exact ⟨ret_bool (decide_eq_false R.out).symm, hb0.out⟩
          · have R := Lib.hid (right_mt (k := 3) (n := n) (s := s) (.inr (.inr ⟨rfl, by omega⟩)))
            clear t2 k2 k0 t0
            go_enter Tryz.func26, Tryz.ntmps26
            go_wp2_with fail
            go_ret
            exact ⟨ret_bool (isEmp R.out), hb0.out⟩
      · have t3 : (k == 3) = false := by simp; exact k3
        by_cases k1 : k = 1
        · subst k1
          have R := Lib.hid (right_mt (k := 1) (n := n) (s := s) (.inr (.inl rfl)))
          clear t2 k2 k0 t0 k3 t3
          go_enter Tryz.func26, Tryz.ntmps26
          go_wp2_with fail
          go_ret
          exact ⟨ret_bool (isEmp R.out), hb0.out⟩
        · have t1 : (k == 1) = false := by simp; exact k1
          have R := Lib.hid (not_right (k := k) (n := n) (s := s) (.inl k2) (.inl k0) k1 (.inl k3))
          go_enter Tryz.func26, Tryz.ntmps26
          go_wp2_with fail
          go_ret
          exact ⟨ret_bool (decide_eq_false R.out).symm, hb0.out⟩
/-- Check -/
def checkE (v : Vl.V) : Int := if Vl.right v then 0 else 2
theorem checkE_ok {v : Vl.V} (h : Vl.right v) : checkE v = 0 := if_pos h
theorem checkE_bad {v : Vl.V} (h : ¬ Vl.right v) : checkE v = 2 := if_neg h
set_option maxRecDepth 100000 in
set_option maxHeartbeats 1600000 in
theorem check12_any (v : Vl.V) (w : World) :
    Calls Tryz.prog 15 #[valV v] w fun e w' => e = .returned (.int .i64 (checkE v)) ∧ Below w.heap.size w w' := by
  have hb1 : Hid (∀ w', Below (w.alloc (.cells (valC v) 31)).heap.size (w.alloc (.cells (valC v) 31)) w' → Below w.heap.size w w') := Lib.hid fun w' h => below_box _ h
  by_cases hr : Vl.right v
  · have E := Lib.hid (checkE_ok hr)
    have c := fun w => right12_any v w
    rw [decide_eq_true hr] at c
    clear hr
    go_enter Tryz.func15, Tryz.ntmps15
    go_wp2_with (go_at_call 26; refine (c _).mono ?_; rintro e w1 ⟨rfl, hb⟩; have H := Lib.hid hb; clear hb)
    go_ret
    exact ⟨ret_int E.out.symm, hb1.out _ H.out⟩
  · have E := Lib.hid (checkE_bad hr)
    have c := fun w => right12_any v w
    rw [decide_eq_false hr] at c
    clear hr
    go_enter Tryz.func15, Tryz.ntmps15
    go_wp2_with (go_at_call 26; refine (c _).mono ?_; rintro e w1 ⟨rfl, hb⟩; have H := Lib.hid hb; clear hb)
    go_ret
    exact ⟨ret_int E.out.symm, hb1.out _ H.out⟩
end Go.Proofs.YtmkllibfblacfaaGreatDoor

/-
  Layer 14: two expressions compared, the document's.
-/
namespace Go.Proofs.YtmkllibfblacfaaGreatDoor
open Go.RowKit
open Sx (X)
namespace Sx
end Sx
end Go.Proofs.YtmkllibfblacfaaGreatDoor

/-
  Layer 14's laws: which expressions are small.
-/
namespace Go.Proofs.YtmkllibfblacfaaGreatDoor
open Go.RowKit
open Sx (X)
end Go.Proofs.YtmkllibfblacfaaGreatDoor

/-
  Layer 14: ops: what they are written as, their levels, how many they have: the document's.
-/
namespace Go.Proofs.YtmkllibfblacfaaGreatDoor
open Go.RowKit
open Sx (X)
end Go.Proofs.YtmkllibfblacfaaGreatDoor

/-
  Layer 14: which expressions are right, the document's.
-/
namespace Go.Proofs.YtmkllibfblacfaaGreatDoor
open Go.RowKit
open Sx (X)
theorem eql_val_same (a : Vl.V) (w : World) : (binOp BinOp.eql 31 (valV a) (valV a)).run Tryz.prog w = .ok (.bool true) w := by
  obtain ⟨k, n, s⟩ := a
  have hS : Tryz.prog.underlying 31 = some (.struct (Tryz.prog.fieldsOf 31)) := by kernel_rfl
  have hp : Tryz.prog.stoodInHeld 31 = false := by kernel_rfl
  rw [run_eql_struct, show (10000 : Nat) = 9999 + 1 from rfl, run_equalIn_agg w 9999 31 _ _ hS hp]
  have hU := Tryz.underlying31
  simp only [Program.fieldsOf, hU]
  go_simp
theorem eql_val_other {a b : Vl.V} (h : ¬ a = b) (w : World) : (binOp BinOp.eql 31 (valV a) (valV b)).run Tryz.prog w = .ok (.bool false) w := by
  obtain ⟨k, n, s⟩ := a
  obtain ⟨k2, n2, s2⟩ := b
  have hS : Tryz.prog.underlying 31 = some (.struct (Tryz.prog.fieldsOf 31)) := by kernel_rfl
  have hp : Tryz.prog.stoodInHeld 31 = false := by kernel_rfl
  rw [run_eql_struct, show (10000 : Nat) = 9999 + 1 from rfl, run_equalIn_agg w 9999 31 _ _ hS hp]
  have hU := Tryz.underlying31
  simp only [Program.fieldsOf, hU]
  go_simp
  by_cases h1 : k = k2
  · subst h1
    by_cases h2 : n = n2
    · subst h2
      have h3 : ¬ s.toList = s2.toList := fun e => h (Vl.v_ext rfl rfl (Sl.ba_ext (by rw [← ByteArray.toList_eq, ← ByteArray.toList_eq]; exact e)))
      simp [h3]
    · simp [h2]
  · simp [h1]
theorem eql_val (a b : Vl.V) (w : World) : (binOp BinOp.eql 31 (valV a) (valV b)).run Tryz.prog w = .ok (.bool (decide (a = b))) w := by
  by_cases h : a = b
  · subst h; rw [decide_eq_true rfl]; exact eql_val_same a w
  · rw [decide_eq_false h]; exact eql_val_other h w
theorem Sx.right_eq (x : X) : Sx.right x = (decide ((x.l.length : Int) = Sx.count x.op) && (if x.op = 1 then decide (x.s = Vl.mt) && decide (Vl.right x.v) && (decide (x.v.kind ≠ 1) || decide (0 ≤ x.v.n)) else if x.op = 2 then decide (x.v = Vl.no) && Lx.nameB x.s else Sx.rightL x.l && (decide (x.v = Vl.no) && decide (x.s = Vl.mt)))) := by
  obtain ⟨op, v, s, l⟩ := x
  rw [Sx.right]; rfl
theorem mt_beq (s : ByteArray) : (s.toList == []) = decide (s = Vl.mt) := by
  by_cases h : s = Vl.mt
  · rw [decide_eq_true h, (mt_iff13 s).2 h]; rfl
  · rw [decide_eq_false h]
    have := fun e => h ((mt_iff13 s).1 e)
    simpa using this
end Go.Proofs.YtmkllibfblacfaaGreatDoor

/-
  A list of strings that a call owns and appends to, told by its texts (over AppOne's OwL).
-/
namespace Go.Proofs.YtmkllibfblacfaaGreatDoor
open Go.RowKit
abbrev cs1 (s : ByteArray) : List Value := [.string s]
end Go.Proofs.YtmkllibfblacfaaGreatDoor

/-
  Layer 14: an expression's names, the document's.
-/
namespace Go.Proofs.YtmkllibfblacfaaGreatDoor
open Go.RowKit
open Sx (X)
namespace Sx
def own (x : X) : List ByteArray := if x.op = 2 then [x.s] else []
end Sx
/-- the loops' lists: the one that grows, the one that comes in -/
structure NmAt (A : World) (ao : Option Addr) (n cp : Nat) (O : List ByteArray) (am : Option Addr) (M : List ByteArray) (wr : World) : Prop where
  out : OwL cs1 9 1 wr A.heap.size (.slice ao n cp) O
  more : ReadsS wr am M
  bel : Below A.heap.size A wr
  apart : ∀ p q, ao = some p → am = some q → p.block ≠ q.block
end Go.Proofs.YtmkllibfblacfaaGreatDoor

/-
  Layer 12: a text's text: in quotes, the program's and the document's.
-/
namespace Go.Proofs.YtmkllibfblacfaaGreatDoor
open Go.RowKit
/-- what stands in quotes ahead of pos -/
def quoTo (s : ByteArray) (pos : Nat) : List UInt8 := 34 :: Vl.esc (s.data.toList.take pos)
/-- the loop's state: the builder N, the iterator G -/
structure QuoAt (s : ByteArray) (w : World) (G pos : Nat) (wr : World) : Prop where
  bld : BldF wr w.heap.size w.heap.size (quoTo s pos)
  iter : wr.heap[G]? = some (.stringIter s pos)
  below : Below w.heap.size w wr
end Go.Proofs.YtmkllibfblacfaaGreatDoor

/-
  A region that draws its order, walked by what each operation leaves behind: whatever order is picked, a condition on the values that have come up so far and on the world is kept by each operation. For regions whose operations make and write memory (an append of an append ..), where the orders are too many to be walked one by one.
-/
namespace Go.Proofs.YtmkllibfblacfaaGreatDoor
open Go.RowKit
section
variable {P : Program} {ops : Array Oper} {Q : Exit → Act → World → Prop}
/-- the values that have come up, one more -/
def came (st : Nat → Option Value) (i : Nat) (v : Value) : Nat → Option Value := fun j => if j = i then some v else st j
theorem came_at (st : Nat → Option Value) (i : Nat) (v : Value) : came st i v i = some v := if_pos rfl
theorem came_far {st : Nat → Option Value} {i j : Nat} {v : Value} (h : j ≠ i) : came st i v j = st j := if_neg h
/-- the frame a is a0, with the values st where the operations put them -/
structure FrameIs (ops : Array Oper) (a0 : Act) (st : Nat → Option Value) (a : Act) : Prop where
  defers : a.defers = a0.defers
  size : a.tmps.size = a0.tmps.size
  come : ∀ i o d v, ops[i]? = some o → o.dst = some d → st i = some v → a.tmps.getD d undef = v
  stay : ∀ d, (∀ i o, ops[i]? = some o → o.dst = some d → st i = none) → a.tmps.getD d undef = a0.tmps.getD d undef
/-- what is asked of the region's text (each by the kernel) -/
structure RelyOk (ops : Array Oper) (n : Nat) : Prop where
  bound : ∀ (i : Nat) (o : Oper) (d : Nat), ops[i]? = some o → o.dst = some d → d < n
  apart : ∀ (i j : Nat) (o p : Oper) (d : Nat), ops[i]? = some o → ops[j]? = some p → o.dst = some d → p.dst = some d → i = j
  after : ∀ (i : Nat) (o : Oper), ops[i]? = some o → ∀ e ∈ o.after, Region.binds .any e = true → e.on < i
/-- .. and that no operation hangs on another one's truth -/
def PlainOps (ops : Array Oper) : Prop := ∀ (i : Nat) (o : Oper), ops[i]? = some o → o.guard = none
def relyB (ops : Array Oper) (n : Nat) : Bool :=
  (List.range ops.size).all fun i => match ops[i]? with
    | none => true
    | some o => o.guard.isNone && o.after.all (fun e => !Region.binds .any e || decide (e.on < i)) && (match o.dst with
      | none => true
      | some d => decide (d < n) && (List.range ops.size).all fun j => match ops[j]? with
        | none => true
        | some p => p.dst != some d || decide (i = j))
theorem relyOk_of {ops : Array Oper} {n : Nat} (h : relyB ops n = true) : RelyOk ops n ∧ PlainOps ops := by
  unfold relyB at h
  rw [List.all_eq_true] at h
  have key : ∀ (i : Nat) (o : Oper), ops[i]? = some o → o.guard.isNone = true ∧ o.after.all (fun e => !Region.binds .any e || decide (e.on < i)) = true ∧ ∀ d, o.dst = some d → d < n ∧ ∀ (j : Nat) (p : Oper), ops[j]? = some p → p.dst = some d → i = j := by
    intro i o ho
    have hi : i < ops.size := (Array.getElem?_eq_some_iff.1 ho).1
    have h1 := h i (List.mem_range.2 hi)
    rw [ho] at h1
    simp only [Bool.and_eq_true] at h1
    refine ⟨h1.1.1, h1.1.2, fun d hd => ?_⟩
    have h2 := h1.2
    rw [hd] at h2
    simp only [Bool.and_eq_true, decide_eq_true_eq] at h2
    refine ⟨h2.1, fun j p hp hpd => ?_⟩
    have hj : j < ops.size := (Array.getElem?_eq_some_iff.1 hp).1
    have h3 := List.all_eq_true.1 h2.2 j (List.mem_range.2 hj)
    rw [hp] at h3
    simp only [hpd, bne_self_eq_false, Bool.false_or, decide_eq_true_eq] at h3
    exact h3
  refine ⟨⟨fun i o d ho hd => ((key i o ho).2.2 d hd).1, fun i j o p d ho hp hd hpd => ((key i o ho).2.2 d hd).2 j p hp hpd, fun i o ho e he hbe => ?_⟩, fun i o ho => ?_⟩
  · have := (key i o ho).2.1
    rw [Array.all_eq_true_iff_forall_mem] at this
    have h2 := this e he
    rw [hbe] at h2
    simpa using h2
  · simpa using (key i o ho).1
theorem frame_put {a0 a : Act} {st : Nat → Option Value} {i : Nat} {o : Oper} {v : Value} (hok : RelyOk ops a0.tmps.size) (ho : ops[i]? = some o) (h : FrameIs ops a0 st a) : FrameIs ops a0 (came st i v) (a.put o.dst v) := by
  cases hd : o.dst with
  | none =>
    refine ⟨h.defers, h.size, fun j p d u hj hpd hu => ?_, fun d hn => ?_⟩
    · have hji : j ≠ i := fun e => by subst e; rw [ho] at hj; cases hj; rw [hd] at hpd; cases hpd
      rw [came_far hji] at hu
      exact h.come j p d u hj hpd hu
    · refine h.stay d fun j p hj hpd => ?_
      have hji : j ≠ i := fun e => by subst e; rw [ho] at hj; cases hj; rw [hd] at hpd; cases hpd
      have := hn j p hj hpd
      rwa [came_far hji] at this
  | some d0 =>
    have hlt := hok.bound i o d0 ho hd
    have hget : ∀ d, (a.tmps.setIfInBounds d0 v).getD d undef = if d0 = d then v else a.tmps.getD d undef := fun d => by
      rw [Array.getD_eq_getD_getElem?, Array.getD_eq_getD_getElem?, Array.getElem?_setIfInBounds]
      by_cases e : d0 = d
      · subst e
        rw [if_pos rfl, if_pos rfl, if_pos (by rw [h.size]; exact hlt)]; rfl
      · rw [if_neg e, if_neg e]
    refine ⟨h.defers, by show (a.tmps.setIfInBounds d0 v).size = _; rw [Array.size_setIfInBounds]; exact h.size, fun j p d u hj hpd hu => ?_, fun d hn => ?_⟩
    · show (a.tmps.setIfInBounds d0 v).getD d undef = u
      rw [hget]
      by_cases e : d0 = d
      · subst e
        have hij := hok.apart i j o p d0 ho hj hd hpd
        subst hij
        rw [came_at] at hu
        rw [if_pos rfl]; exact Option.some.inj hu
      · rw [if_neg e]
        have hji : j ≠ i := fun e2 => by subst e2; rw [ho] at hj; cases hj; rw [hd] at hpd; cases hpd; exact e rfl
        rw [came_far hji] at hu
        exact h.come j p d u hj hpd hu
    · show (a.tmps.setIfInBounds d0 v).getD d undef = _
      rw [hget]
      have e : d0 ≠ d := fun e => by subst e; have := hn i o ho hd; rw [came_at] at this; cases this
      rw [if_neg e]
      refine h.stay d fun j p hj hpd => ?_
      have hji : j ≠ i := fun e2 => by subst e2; rw [ho] at hj; cases hj; rw [hd] at hpd; cases hpd; exact e rfl
      have := hn j p hj hpd
      rwa [came_far hji] at this
theorem least_of {p : Nat → Prop} (h : ∃ i, p i) : ∃ i, p i ∧ ∀ j, j < i → ¬ p j := by
  obtain ⟨i, hi⟩ := h
  induction i using Nat.strongRecOn with
  | _ i ih =>
    by_cases hc : ∃ j, j < i ∧ p j
    · obtain ⟨j, hj, hp⟩ := hc
      exact ih j hj hp
    · exact ⟨i, hi, fun j hj hp => hc ⟨j, hj, hp⟩⟩
/-- a slot that no operation writes -/
theorem frame_stay {a0 a : Act} {st : Nat → Option Value} (h : FrameIs ops a0 st a) {d : Nat} (hd : (ops.all fun o => o.dst != some d) = true) : a.tmps.getD d undef = a0.tmps.getD d undef := by
  refine h.stay d fun i o ho hod => ?_
  rw [Array.all_eq_true_iff_forall_mem] at hd
  have := hd o (Array.mem_of_getElem? ho)
  rw [hod] at this
  simp at this
/-- listed says which have come up -/
def Told (n : Nat) (st : Nat → Option Value) (listed : Array Bool) : Prop := listed.size = n ∧ ∀ i, i < n → listed[i]? = some (st i).isSome
def left (n : Nat) (st : Nat → Option Value) : Nat := (List.range n).countP fun i => (st i).isNone
theorem left_came {n : Nat} {st : Nat → Option Value} {i : Nat} {v : Value} (hi : i < n) (h : st i = none) : left n st = left n (came st i v) + 1 := by
  unfold left
  induction n with
  | zero => omega
  | succ n ih =>
    rw [List.range_succ, List.countP_append, List.countP_append]
    by_cases e : i = n
    · subst e
      have h1 : (List.range i).countP (fun j => (st j).isNone) = (List.range i).countP (fun j => (came st i v j).isNone) := by
        apply List.countP_congr
        intro j hj
        rw [came_far (by have := List.mem_range.1 hj; omega)]
      rw [h1]
      simp [came_at, h]
    · have := ih (by omega)
      rw [this]
      have h2 : came st i v n = st n := came_far (by omega)
      simp [h2]
      omega
theorem left_zero {n : Nat} {st : Nat → Option Value} (h : left n st = 0) : ∀ i, i < n → (st i).isSome = true := by
  intro i hi
  unfold left at h
  rw [List.countP_eq_zero] at h
  have := h i (List.mem_range.2 hi)
  cases hs : st i with
  | none => rw [hs] at this; simp at this
  | some v => rfl
/-- the step of one operation -/
def Steps (P : Program) (G : (Nat → Option Value) → World → Prop) (st : Nat → Option Value) (i : Nat) (o : Oper) (a : Act) (w : World) : Prop :=
  (∃ v w', (execOp a.eval o).run P w = .ok (.value v) w' ∧ G (came st i v) w') ∨ (∃ w', (execOp a.eval o).run P w = .ok .skip w' ∧ G (came st i undef) w')
end
end Go.Proofs.YtmkllibfblacfaaGreatDoor

/-
  As Rely, for a region that calls Go functions too; and the usual condition: each value as it is told, whatever is made behind.
-/
namespace Go.Proofs.YtmkllibfblacfaaGreatDoor
open Go.RowKit
section
variable {P : Program} {ops : Array Oper} {Q : Exit → Act → World → Prop}
/-- the step of one operation, a call among them -/
def StepsC (P : Program) (G : (Nat → Option Value) → World → Prop) (st : Nat → Option Value) (i : Nat) (o : Oper) (a : Act) (w : World) : Prop :=
  (∃ v w', (execOp a.eval o).run P w = .ok (.value v) w' ∧ G (came st i v) w') ∨ (∃ w', (execOp a.eval o).run P w = .ok .skip w' ∧ G (came st i undef) w') ∨
    (∃ f args R, (execOp a.eval o).run P w = .ok (.enter f args) w ∧ Calls P f args w R ∧ ∀ e w', R e w' → ∃ v, e = .returned v ∧ G (came st i v) w')
theorem wpAny_relyC {a0 : Act} {G : (Nat → Option Value) → World → Prop} (hok : RelyOk ops a0.tmps.size)
    (hstep : ∀ st w i o a, ops[i]? = some o → st i = none → (∀ e ∈ o.after, Region.binds .any e = true → (st e.on).isSome = true) → G st w → FrameIs ops a0 st a → if Region.wanted o (yielded ops a.tmps) = true then StepsC P G st i o a w else G (came st i undef) w)
    (hend : ∀ st w a, (∀ i, i < ops.size → (st i).isSome = true) → G st w → FrameIs ops a0 st a → Q .normal a w) :
    ∀ fuel st listed a w, left ops.size st = fuel → Told ops.size st listed → G st w → FrameIs ops a0 st a → wpAny P .any ops Q fuel listed a w := by
  have hmem : ∀ st listed, Told ops.size st listed → ∀ i, i ∈ Region.ready .any ops listed → ∃ o, ops[i]? = some o ∧ i < ops.size ∧ st i = none ∧ ∀ e ∈ o.after, Region.binds .any e = true → (st e.on).isSome = true := by
    intro st listed ht i hi
    unfold Region.ready at hi
    rw [List.mem_filter, List.mem_range] at hi
    obtain ⟨hi1, hi2⟩ := hi
    rw [Bool.and_eq_true] at hi2
    obtain ⟨o, ho⟩ : ∃ o, ops[i]? = some o := ⟨_, Array.getElem?_eq_getElem hi1⟩
    refine ⟨o, ho, hi1, ?_, fun e he hb => ?_⟩
    · have h1 := hi2.1
      rw [Array.getD_eq_getD_getElem?, ht.2 i hi1] at h1
      cases hs : st i with
      | none => rfl
      | some v => rw [hs] at h1; simp at h1
    · have h2 := hi2.2
      rw [ho] at h2
      simp only [Option.map_some, Option.getD_some] at h2
      rw [Array.all_eq_true_iff_forall_mem] at h2
      have h3 := h2 e he
      rw [hb] at h3
      simp only [Bool.not_true, Bool.false_or] at h3
      have hlt : e.on < ops.size := Nat.lt_trans (hok.after i o ho e he hb) hi1
      rw [Array.getD_eq_getD_getElem?, ht.2 _ hlt] at h3
      exact h3
  intro fuel
  induction fuel with
  | zero =>
    intro st listed a w hl ht hg hf
    have hall := left_zero hl
    refine ⟨?_, hend st w a hall hg hf⟩
    cases hr : Region.ready .any ops listed with
    | nil => rfl
    | cons i r =>
      obtain ⟨o, _, hi, hn, _⟩ := hmem st listed ht i (by rw [hr]; exact List.mem_cons_self ..)
      have := hall i hi
      rw [hn] at this; cases this
  | succ fuel ih =>
    intro st listed a w hl ht hg hf
    refine ⟨fun h0 => ?_, fun i hi => ?_⟩
    · -- the first that has not come up is ready
      exfalso
      have hex : ∃ i, i < ops.size ∧ st i = none := by
        refine Classical.byContradiction fun hc => ?_
        have : left ops.size st = 0 := by
          unfold left
          rw [List.countP_eq_zero]
          intro i hi
          cases hs : st i with
          | none => exact absurd ⟨i, List.mem_range.1 hi, hs⟩ hc
          | some v => simp
        omega
      obtain ⟨i, ⟨hi, hn⟩, hmin⟩ := least_of hex
      obtain ⟨o, ho⟩ : ∃ o, ops[i]? = some o := ⟨_, Array.getElem?_eq_getElem hi⟩
      have : i ∈ Region.ready .any ops listed := by
        unfold Region.ready
        rw [List.mem_filter, List.mem_range]
        refine ⟨hi, ?_⟩
        rw [Bool.and_eq_true]
        refine ⟨by rw [Array.getD_eq_getD_getElem?, ht.2 i hi, hn]; rfl, ?_⟩
        rw [ho]
        simp only [Option.map_some, Option.getD_some]
        rw [Array.all_eq_true_iff_forall_mem]
        intro e he
        by_cases hbe : Region.binds .any e = true
        case neg => rw [Bool.not_eq_true] at hbe; rw [hbe]; rfl
        have hlt := hok.after i o ho e he hbe
        have hs : (st e.on).isSome = true := by
          cases hs : st e.on with
          | none => exact absurd ⟨Nat.lt_trans hlt hi, hs⟩ (hmin _ hlt)
          | some v => rfl
        rw [Array.getD_eq_getD_getElem?, ht.2 _ (Nat.lt_trans hlt hi), hs]
        simp
      rw [h0] at this
      cases this
    · obtain ⟨o, ho, hi1, hn, haft⟩ := hmem st listed ht i hi
      unfold wpOp
      rw [ho]
      have ht2 : ∀ v, Told ops.size (came st i v) (listed.setIfInBounds i true) := fun v => by
        refine ⟨by rw [Array.size_setIfInBounds]; exact ht.1, fun j hj => ?_⟩
        rw [Array.getElem?_setIfInBounds]
        by_cases e : i = j
        · subst e
          rw [if_pos rfl, if_pos (by rw [ht.1]; exact hi1), came_at]; rfl
        · rw [if_neg e, came_far (fun x => e x.symm)]
          exact ht.2 j hj
      have hl2 : ∀ v, left ops.size (came st i v) = fuel := fun v => by have := left_came (v := v) hi1 hn; omega
      have hst := hstep st w i o a ho hn haft hg hf
      by_cases hwf : Region.wanted o (yielded ops a.tmps) = false
      · rw [if_neg (by rw [hwf]; exact Bool.false_ne_true)] at hst
        simp only [hwf]
        exact ih _ _ _ _ (hl2 undef) (ht2 undef) hst (frame_put hok ho hf)
      have hw : Region.wanted o (yielded ops a.tmps) = true := by cases h : Region.wanted o (yielded ops a.tmps) <;> simp_all
      rw [if_pos hw] at hst
      simp only [hw, if_true]
      left
      unfold Oper.wp
      rcases hst with ⟨v, w', hrun, hg'⟩ | ⟨w', hrun, hg'⟩ | ⟨f, args, R, hrun, hc, hR⟩
      · rw [hrun]
        exact ih _ _ _ _ (hl2 v) (ht2 v) hg' (frame_put hok ho hf)
      · rw [hrun]
        exact ih _ _ _ _ (hl2 undef) (ht2 undef) hg' (frame_put hok ho hf)
      · rw [hrun, Oper.upon_enter]
        refine hc.mono fun e w' he => ?_
        obtain ⟨v, rfl, hg'⟩ := hR e w' he
        exact ih _ _ _ _ (hl2 v) (ht2 v) hg' (frame_put hok ho hf)
theorem wp_region_relyC {id : Nat} {a0 : Act} {w : World} (G : (Nat → Option Value) → World → Prop) (hm : P.follows .mixedOrders = true) (hok : relyB ops a0.tmps.size = true) (h0 : G (fun _ => none) w.drew)
    (hstep : ∀ st w i o a, ops[i]? = some o → st i = none → (∀ e ∈ o.after, Region.binds .any e = true → (st e.on).isSome = true) → G st w → FrameIs ops a0 st a → StepsC P G st i o a w)
    (hend : ∀ st w a, (∀ i, i < ops.size → (st i).isSome = true) → G st w → FrameIs ops a0 st a → Q .normal a w) : (Code.region id ops true).wp P Q a0 w := by
  refine wp_region_any hm ?_
  refine wpAny_relyC (relyOk_of hok).1 (fun st w i o a ho hn haft hg hf => by
    have hw : Region.wanted o (yielded ops a.tmps) = true := by simp [Region.wanted, (relyOk_of hok).2 i o ho]
    rw [if_pos hw]
    exact hstep st w i o a ho hn haft hg hf) hend ops.size (fun _ => none) _ a0 w.drew ?_ ?_ h0 ?_
  · show (List.range ops.size).countP (fun _ => true) = ops.size
    rw [List.countP_true, List.length_range]
  · exact ⟨Array.size_replicate, fun i hi => by rw [Array.getElem?_replicate, if_pos hi]; rfl⟩
  · exact ⟨rfl, rfl, (fun _ _ _ _ _ _ h => by cases h), fun _ _ => rfl⟩
end
end Go.Proofs.YtmkllibfblacfaaGreatDoor

/-
  Layer 12: a number's digits, as the document says them.
-/
namespace Go.Proofs.YtmkllibfblacfaaGreatDoor
open Go.RowKit
end Go.Proofs.YtmkllibfblacfaaGreatDoor

/-
  strings.Compare, cmp.Compare of integers, strconv.FormatBool: what they answer.
-/
namespace Go.Proofs.YtmkllibfblacfaaGreatDoor
open Go.RowKit
theorem cmpstring_enters (a b : ByteArray) (w : World) : (callFunc 178 #[.string a, .string b]).run Tryz.prog w = .ok (.value (.int .i64 (Lib.compareBytes a.data.toList b.data.toList))) w := by
  rw [run_callFunc_extern Tryz.func178 (by kernel_rfl) (by kernel_rfl) (by kernel_rfl) (by kernel_rfl), Lib.run_compareString]
  rfl
set_option maxRecDepth 100000 in
theorem scompare_any (a b : ByteArray) (w : World) : Calls Tryz.prog 145 #[.string a, .string b] w fun e w' => e = .returned (.int .i64 (Lib.compareBytes a.data.toList b.data.toList)) ∧ w' = w := by
  have h := fun w => cmpstring_enters a b w
  generalize Lib.compareBytes a.data.toList b.data.toList = C at *
  have c1 : ∀ w, Calls Tryz.prog 164 #[.string a, .string b] w fun e w' => e = .returned (.int .i64 C) ∧ w' = w := by
    intro w
    go_enter Tryz.func164, Tryz.ntmps164
    go_wp2_with fail
    go_ret
    exact ⟨rfl, rfl⟩
  clear h
  have HC := Lib.hid c1
  clear c1
  go_enter Tryz.func145, Tryz.ntmps145
  go_wp2_with fail
  refine (HC.out _).mono ?_
  rintro e w1 ⟨rfl, hw⟩
  obtain rfl := hw.symm; clear hw
  go_wp2_with fail
  go_ret
  exact ⟨rfl, rfl⟩
set_option maxRecDepth 100000 in
theorem icompare_any (a b : Int) (w : World) : Calls Tryz.prog 144 #[.int .i64 a, .int .i64 b] w fun e w' => e = .returned (.int .i64 (Vl.cmpI a b)) ∧ w' = w := by
  have na : (a == a) = true := by simp
  have nb : (b == b) = true := by simp
  have n1 : ∀ (x : Int) (w : World), Calls Tryz.prog 163 #[.int .i64 x] w fun e w' => e = .returned (.bool false) ∧ w' = w := by
    intro x w
    go_enter Tryz.func163, Tryz.ntmps163
    go_wp2_with fail
    go_ret
    exact ⟨by simp, rfl⟩
  rcases Vl.cmpI_cases a b with ⟨h, e⟩ | ⟨h, e⟩ | ⟨h, e⟩
  · have E := Lib.hid e; clear e
    go_enter Tryz.func144, Tryz.ntmps144
    go_wp2_with (go_at_call 163; refine (n1 _ _).mono ?_; rintro e w1 ⟨rfl, rfl⟩)
    go_ret
    exact ⟨ret_int E.out.symm, rfl⟩
  · have E := Lib.hid e; clear e
    subst h
    go_enter Tryz.func144, Tryz.ntmps144
    go_wp2_with (go_at_call 163; refine (n1 _ _).mono ?_; rintro e w1 ⟨rfl, rfl⟩)
    go_ret
    exact ⟨ret_int E.out.symm, rfl⟩
  · have E := Lib.hid e; clear e
    have h' : ¬ a < b := by omega
    go_enter Tryz.func144, Tryz.ntmps144
    go_wp2_with (go_at_call 163; refine (n1 _ _).mono ?_; rintro e w1 ⟨rfl, rfl⟩)
    go_ret
    exact ⟨ret_int E.out.symm, rfl⟩
set_option maxRecDepth 100000 in
theorem kcompare_any (a b : Int) (w : World) : Calls Tryz.prog 143 #[.int .i64 a, .int .i64 b] w fun e w' => e = .returned (.int .i64 (Vl.cmpI a b)) ∧ w' = w := by
  have n1 : ∀ (x : Int) (w : World), Calls Tryz.prog 162 #[.int .i64 x] w fun e w' => e = .returned (.bool false) ∧ w' = w := by
    intro x w
    go_enter Tryz.func162, Tryz.ntmps162
    go_wp2_with fail
    go_ret
    exact ⟨by simp, rfl⟩
  rcases Vl.cmpI_cases a b with ⟨h, e⟩ | ⟨h, e⟩ | ⟨h, e⟩
  · have E := Lib.hid e; clear e
    go_enter Tryz.func143, Tryz.ntmps143
    go_wp2_with (go_at_call 162; refine (n1 _ _).mono ?_; rintro e w1 ⟨rfl, rfl⟩)
    go_ret
    exact ⟨ret_int E.out.symm, rfl⟩
  · have E := Lib.hid e; clear e
    subst h
    go_enter Tryz.func143, Tryz.ntmps143
    go_wp2_with (go_at_call 162; refine (n1 _ _).mono ?_; rintro e w1 ⟨rfl, rfl⟩)
    go_ret
    exact ⟨ret_int E.out.symm, rfl⟩
  · have E := Lib.hid e; clear e
    have h' : ¬ a < b := by omega
    go_enter Tryz.func143, Tryz.ntmps143
    go_wp2_with (go_at_call 162; refine (n1 _ _).mono ?_; rintro e w1 ⟨rfl, rfl⟩)
    go_ret
    exact ⟨ret_int E.out.symm, rfl⟩
end Go.Proofs.YtmkllibfblacfaaGreatDoor

/-
  strconv.Itoa: the library's contract at this program's own numbers (every int; it reads the table of powers of ten).
-/
namespace Go.Proofs
open Go.Shelf
namespace YtmkllibfblacfaaGreatDoor
open Go.RowKit
/-- the table of powers of ten reads as its initialiser lays it -/
abbrev Pow10 (w : World) : Prop := Lib.TabIs Tryz.prog w "internal/strconv.uint64pow10" .u64 Lib.pow10Tab
end YtmkllibfblacfaaGreatDoor
end Go.Proofs

/-
  Layer 12: a value's text, the program's and the document's.
-/
namespace Go.Proofs.YtmkllibfblacfaaGreatDoor
open Go.RowKit
/-- what Text tells -/
def textB (v : Vl.V) : ByteArray := if Vl.right v then Vl.text v else Vl.mt
end Go.Proofs.YtmkllibfblacfaaGreatDoor

/-
  Layer 14: what an expression is written as, the document's.
-/
namespace Go.Proofs.YtmkllibfblacfaaGreatDoor
open Go.RowKit
open Sx (X)
namespace Sx
@[simp] theorem op_mk (o : Int) (v : Vl.V) (s : ByteArray) (l : List X) : (X.mk o v s l).op = o := rfl
@[simp] theorem v_mk (o : Int) (v : Vl.V) (s : ByteArray) (l : List X) : (X.mk o v s l).v = v := rfl
@[simp] theorem s_mk (o : Int) (v : Vl.V) (s : ByteArray) (l : List X) : (X.mk o v s l).s = s := rfl
@[simp] theorem l_mk (o : Int) (v : Vl.V) (s : ByteArray) (l : List X) : (X.mk o v s l).l = l := rfl
end Sx
end Go.Proofs.YtmkllibfblacfaaGreatDoor

/-
  Layer 14: an expression's text, the document's.
-/
namespace Go.Proofs.YtmkllibfblacfaaGreatDoor
open Go.RowKit
open Sx (X)
namespace Sx
end Sx
end Go.Proofs.YtmkllibfblacfaaGreatDoor

/-
  Layer 14: the document's reader of tokens: what stands here, what must stand here.
-/
namespace Go.Proofs.YtmkllibfblacfaaGreatDoor
open Go.RowKit
open Sx (X toksOf isT)
end Go.Proofs.YtmkllibfblacfaaGreatDoor

/-
  Layer 14: the document's reader of tokens: which op of two stands here.
-/
namespace Go.Proofs.YtmkllibfblacfaaGreatDoor
open Go.RowKit
open Sx (X toksOf isT)
namespace Sx
end Sx
end Go.Proofs.YtmkllibfblacfaaGreatDoor

/-
  Layer 14: the document's reader of tokens: what is at level 7.
-/
namespace Go.Proofs.YtmkllibfblacfaaGreatDoor
open Go.RowKit
open Sx (X toksOf isT)
theorem results_cell_one14 {fn : Func} {p : Tmp} {ty : TypeId} (h : fn.results = #[.cell p ty]) (tmps : Array Value) (P : Program) (w : World) :
    (results fn tmps).run P w = ((asAddr (tmps.getD p undef)).run P w).andThen fun a w₁ => (loadVar ty a).run P w₁ := by
  simp only [results, h]
  simp [Sem.run_bind, Result.andThen]
set_option maxRecDepth 100000 in
theorem results_x {fn : Func} {p : Tmp} (h : fn.results = #[.cell p 43]) (tmps : Array Value) (w : World) (g : Nat) (x : X) (a : Option Addr) (c : Nat)
    (hp : tmps.getD p undef = .pointer (some ⟨g, 0, none⟩)) (hg : RowV w g 43 (xC x a c).toList) :
    (results fn tmps).run Tryz.prog w = .ok (xV x a c) w := by
  have hl := run_loadVar_row (P := Tryz.prog) w g 43 43 (xC x a c) (0, 0) _ hg Tryz.underlying43 rfl info_expr
  rw [results_cell_one14 h, hp]
  simp only [asAddr, Sem.run_pure, Result.andThen]
  rw [hl]
/-- an expression stored into its box -/
theorem x_put {w : World} {N : Nat} {x : X} {a : Option Addr} {c : Nat} (hr : RowV w N 43 (xC x a c).toList) (op k n : Int) (vs s : ByteArray) (b : Option Addr) (m d : Nat) :
    RowV ((((((w.setCell ⟨N, 0, none⟩ (.int .i64 op)).setCell ⟨N, 1, none⟩ (.int .i64 k)).setCell ⟨N, 2, none⟩ (.int .i64 n)).setCell ⟨N, 3, none⟩ (.string vs)).setCell ⟨N, 4, none⟩ (.string s)).setCell ⟨N, 5, none⟩ (.slice b m d)) N 43 [.int .i64 op, .int .i64 k, .int .i64 n, .string vs, .string s, .slice b m d] ∧
    ∀ F : Nat → Prop, F N → Only F w ((((((w.setCell ⟨N, 0, none⟩ (.int .i64 op)).setCell ⟨N, 1, none⟩ (.int .i64 k)).setCell ⟨N, 2, none⟩ (.int .i64 n)).setCell ⟨N, 3, none⟩ (.string vs)).setCell ⟨N, 4, none⟩ (.string s)).setCell ⟨N, 5, none⟩ (.slice b m d)) :=
  ⟨rowV_stored (rowV_stored (rowV_stored (rowV_stored (rowV_stored (rowV_stored hr 0 (.int .i64 op)) 1 (.int .i64 k)) 2 (.int .i64 n)) 3 (.string vs)) 4 (.string s)) 5 (.slice b m d),
    fun F hF => ((((((Only.refl F w).setCell (g := N) (fun _ => hF) _).setCell (g := N) (fun _ => hF) _).setCell (g := N) (fun _ => hF) _).setCell (g := N) (fun _ => hF) _).setCell (g := N) (fun _ => hF) _).setCell (g := N) (fun _ => hF) _⟩
end Go.Proofs.YtmkllibfblacfaaGreatDoor

/-
  Layer 14, the program's: the token and the word that stand here; what they are of tokens that are right.
-/
namespace Go.Proofs.YtmkllibfblacfaaGreatDoor
open Go.RowKit
open Sx (X toksOf isT)
namespace Sx
section
variable {L : List Lx.T}
theorem mk_size (l : List UInt8) : (Lx.mk l).size = l.length := List.size_toArray ..
end
end Sx
end Go.Proofs.YtmkllibfblacfaaGreatDoor

/-
  Layer 14: the document's reader of tokens: what is at level 7, where a token stands.
-/
namespace Go.Proofs.YtmkllibfblacfaaGreatDoor
open Go.RowKit
open Sx (X toksOf isT)
section
variable {T : Lx.T}
end
end Go.Proofs.YtmkllibfblacfaaGreatDoor

/-
  Layer 14, the program's: the value or name that a token is; the word that stands here.
-/
namespace Go.Proofs.YtmkllibfblacfaaGreatDoor
open Go.RowKit
open Sx (X toksOf isT)
end Go.Proofs.YtmkllibfblacfaaGreatDoor

/-
  Layer 14: the document's reader of tokens: read; where it goes on to the next level.
-/
namespace Go.Proofs.YtmkllibfblacfaaGreatDoor
open Go.RowKit
open Sx (X toksOf isT)
end Go.Proofs.YtmkllibfblacfaaGreatDoor

/-
  Layer 14: the document's reader of tokens: read, where '-' stands.
-/
namespace Go.Proofs.YtmkllibfblacfaaGreatDoor
open Go.RowKit
open Sx (X toksOf isT)
end Go.Proofs.YtmkllibfblacfaaGreatDoor

/-
  Layer 14: the document's reader of tokens: read, where 'if' stands.
-/
namespace Go.Proofs.YtmkllibfblacfaaGreatDoor
open Go.RowKit
open Sx (X toksOf isT)
namespace Sx
def nx (F : Nat → Option X × Nat) (b : Bool) (p : Nat) : Option X × Nat := if b then (none, p) else F p
end Sx
section
variable {w wx wy : World} {R : Nat} {al : Option Addr} {cap : Nat} {L : List Lx.T} {p p' : Nat} {b b' : Bool} {M : Nat} {y : X} {a : Option Addr} {c : Nat}
end
end Go.Proofs.YtmkllibfblacfaaGreatDoor

/-
  Layer 14: the document's reader of tokens: read, the levels of two.
-/
namespace Go.Proofs.YtmkllibfblacfaaGreatDoor
open Go.RowKit
open Sx (X toksOf isT)
theorem wp_value14 {P : Program} {o : Oper} {a : Act} {w : World} {K : Act → World → Prop} {Q : Exit → Act → World → Prop} (v : Value) (w' : World) (hrun : (execOp a.eval o).run P w = .ok (.value v) w') (h : K (a.put o.dst v) w') : Oper.wp P o a w K Q := by
  unfold Oper.wp
  rw [hrun]
  exact h
abbrev l2 (x y : X) (a ay : Option Addr) (c cy : Nat) : List Value := [.int .i64 x.op, .int .i64 x.v.kind, .int .i64 x.v.n, .string x.v.s, .string x.s, .slice a x.l.length c, .int .i64 y.op, .int .i64 y.v.kind, .int .i64 y.v.n, .string y.v.s, .string y.s, .slice ay y.l.length cy]
end Go.Proofs.YtmkllibfblacfaaGreatDoor

/-
  Layer 14, the program's: the reader in memory, with what waits; an op that begins to wait.
-/
namespace Go.Proofs.YtmkllibfblacfaaGreatDoor
open Go.RowKit
open Sx (X toksOf isT)
/-- an expression with where its list lies -/
abbrev Part14 := X × Option Addr × Nat
abbrev fX (y : Part14) : List Value := (xC y.1 y.2.1 y.2.2).toList
/-- an op that waits, in memory: its parts l, where they lie -/
structure Wb where
  op : Int
  lev : Nat
  a : Option Addr
  c : Nat
  l : List Part14
abbrev Wb.v (b : Wb) : Value := .slice b.a b.l.length b.c
abbrev fB (b : Wb) : List Value := [.int .i64 b.op, .slice b.a b.l.length b.c, .int .i64 (b.lev : Int)]
/-- what waits is well, in memory; S: the blocks of what was read -/
def WbOk (w : World) (B : Nat) (S : Nat → Prop) (b : Wb) : Prop :=
  OwL fX 43 6 w B b.v b.l ∧ (∀ y ∈ b.l, XAt w S y.1 y.2.1) ∧ (∀ j, b.v.ownBlock = some j → ¬ S j) ∧ (b.op = 0 ∨ b.op = 3 ∨ b.op = 16 ∨ (4 ≤ b.op ∧ b.op ≤ 15)) ∧ b.l.length ≤ 3 ∧ b.lev ≤ 7
abbrev rdC (al : Option Addr) (ll cap p lev : Nat) (wa : Option Addr) (wn wc : Nat) (y : X) (ay : Option Addr) (cy h : Nat) : List Value :=
  [.slice al ll cap, .int .i64 (p : Int), .int .i64 (lev : Int), .slice wa wn wc, .int .i64 y.op, .int .i64 y.v.kind, .int .i64 y.v.n, .string y.v.s, .string y.s, .slice ay y.l.length cy, .int .i64 (h : Int)]
structure RdP (w : World) (R B : Nat) (S : Nat → Prop) (al : Option Addr) (cap : Nat) (L : List Lx.T) (p lev : Nat) (wa : Option Addr) (wc : Nat) (ws : List Wb) (y : X) (ay : Option Addr) (cy h : Nat) : Prop where
  row : RowV w R 224 (rdC al L.length cap p lev wa ws.length wc y ay cy h)
  toks : ReadsT13 w al L
  wts : OwL fB 238 3 w B (.slice wa ws.length wc) ws
  oks : ∀ b ∈ ws, WbOk w B S b
  sep : ws.Pairwise (fun b c => ∀ j, b.v.ownBlock = some j → ¬ c.v.ownBlock = some j)
  part : XAt w S y ay
  lt : R < B
  hB : B ≤ w.heap.size
  alR : L = [] ∨ ∀ b, al = some b → b.block < R
  hS : ∀ j, S j → B ≤ j ∧ j < w.heap.size
  sepW : ∀ j, (Value.slice wa ws.length wc).ownBlock = some j → ¬ S j
  um : ∀ j, S j → ∃ cs T, w.heap[j]? = some (.cells cs T (0, 0))
section
variable {w w' : World} {R B : Nat} {S : Nat → Prop} {al : Option Addr} {cap : Nat} {L : List Lx.T} {p lev : Nat} {wa : Option Addr} {wc : Nat} {ws : List Wb} {y : X} {ay : Option Addr} {cy h : Nat}
end
-- begin, by program
end Go.Proofs.YtmkllibfblacfaaGreatDoor

/-
  Layer 14, the program's: what begins ahead of its parts; a value or a name.
-/
namespace Go.Proofs.YtmkllibfblacfaaGreatDoor
open Go.RowKit
open Sx (X toksOf isT)
section
variable {w : World} {R B : Nat} {S : Nat → Prop} {al : Option Addr} {cap : Nat} {L : List Lx.T} {p lev : Nat} {wa : Option Addr} {wc : Nat} {ws : List Wb} {y : X} {ay : Option Addr} {cy h : Nat}
end
end Go.Proofs.YtmkllibfblacfaaGreatDoor

/-
  Layer 14, the program's: an op of two that begins; what must stand behind a part.
-/
namespace Go.Proofs.YtmkllibfblacfaaGreatDoor
open Go.RowKit
open Sx (X toksOf isT)
/-- a list of one, in a row that was just made -/
theorem owL_one {α : Type} {f : α → List Value} {E k g B : Nat} {w : World} {y : α} (h : RowV w g E (f y)) (hB : B ≤ g) (hk : (f y).length = k) : OwL f E k w B (.slice (some ⟨g, 0, none⟩) 1 1) [y] := by
  have e : [y].flatMap f = f y := by simp
  refine ⟨by rw [e, hk]; simp, .inr ⟨g, 1, (f y).toArray, rfl, hB, h, Nat.le_refl _, by unfold maxLen; omega, by rw [List.size_toArray, hk, Nat.one_mul], ?_⟩⟩
  rw [e, List.length_singleton, Nat.one_mul, ← hk, List.take_length]
theorem flat_store {α : Type} {f : α → List Value} {k : Nat} (hf : ∀ x, (f x).length = k) {j : Nat} (hj : j < k) (u : Value) (y' : α) : ∀ (l : List α) (i : Nat) (hi : i < l.length), f y' = (f l[i]).set j u → (l.flatMap f).set (i * k + j) u = (l.set i y').flatMap f
  | [], i, hi, _ => by simp at hi
  | x :: l, 0, _, h => by
    rw [List.flatMap_cons, List.set_cons_zero, List.flatMap_cons, h, Nat.zero_mul, Nat.zero_add, List.set_append_left _ _ (by rw [hf]; exact hj)]; rfl
  | x :: l, i + 1, hi, h => by
    have ih := flat_store hf hj u y' l i (by simpa using hi) h
    rw [List.flatMap_cons, List.set_cons_succ, List.flatMap_cons, ← ih, List.set_append_right _ _ (by rw [hf, Nat.add_mul]; omega), hf]
    congr 2
    rw [Nat.add_mul]; omega
/-- a cell of an element of a list that the call owns, written -/
theorem owL_store {α : Type} {f : α → List Value} {E k B : Nat} {w : World} {v : Value} {l : List α} (hf : ∀ x, (f x).length = k) (h : OwL f E k w B v l) (i : Nat) (hi : i < l.length) {j : Nat} (hj : j < k) (u : Value) (y' : α) (hy : f y' = (f l[i]).set j u) :
    ∃ g c, v = .slice (some ⟨g, 0, none⟩) l.length c ∧ v.ownBlock = some g ∧ OwL f E k (w.setCell ⟨g, i * k + j, none⟩ u) B v (l.set i y') ∧ Only (fun k => k = g) w (w.setCell ⟨g, i * k + j, none⟩ u) := by
  rcases h.2 with ⟨_, h0⟩ | ⟨g, cap, cur, rfl, hb, hh, u1, u2, u3, u4⟩
  · omega
  · have hrow : RowV w g E cur.toList := hh
    have hr2 := rowV_stored hrow (i * k + j) u
    have hlt : i * k + j < l.length * k := by
      have := Nat.mul_le_mul_right k (show i + 1 ≤ l.length from hi)
      rw [Nat.add_mul, Nat.one_mul] at this; omega
    refine ⟨g, cap, rfl, rfl, ⟨?_, .inr ⟨g, cap, (cur.toList.set (i * k + j) u).toArray, by rw [List.length_set], hb, hr2, by rw [List.length_set]; exact u1, u2, ?_, ?_⟩⟩, Only.setCell (F := fun k => k = g) (Only.refl _ _) (fun _ => rfl) _⟩
    · rw [← flat_store hf hj u y' l i hi hy, List.length_set, List.length_set]
      exact h.1
    · rw [List.size_toArray, List.length_set, Array.length_toList]; exact u3
    · rw [List.length_set, ← flat_store hf hj u y' l i hi hy, List.take_set, u4]
theorem flat_len14 {α : Type} {f : α → List Value} {k : Nat} (hf : ∀ x, (f x).length = k) : ∀ l : List α, (l.flatMap f).length = l.length * k
  | [] => by simp
  | x :: l => by rw [List.flatMap_cons, List.length_append, hf, flat_len14 hf l, List.length_cons, Nat.add_mul]; omega
/-- without its last -/
theorem owL_pop {α : Type} {f : α → List Value} {E k B n c : Nat} {w : World} {a : Option Addr} {l : List α} {y : α} (hf : ∀ x, (f x).length = k) (h : OwL f E k w B (.slice a (n + 1) c) (l ++ [y])) (hn : l.length = n) : OwL f E k w B (.slice a n c) l := by
  rcases h.2 with ⟨e, _⟩ | ⟨g, cap, cur, e, hb, hh, u1, u2, u3, u4⟩
  · cases e
  · injection e with e1 e2 e3
    subst e1 e3
    have hl2 : (l ++ [y]).length = l.length + 1 := by simp
    have hlen : (l.flatMap f).length = l.length * k := flat_len14 hf l
    refine ⟨hlen, .inr ⟨g, c, cur, by rw [hn], hb, hh, by rw [hl2] at u1; omega, u2, u3, ?_⟩⟩
    rw [List.flatMap_append] at u4
    have := congrArg (List.take (l.length * k)) u4
    rw [List.take_take, hl2, Nat.min_eq_left (by rw [Nat.add_mul]; omega), List.take_append_of_le_length (by rw [hlen]; exact Nat.le_refl _), ← hlen, List.take_length] at this
    rw [← hlen]; exact this
section
variable {w : World} {R B : Nat} {S : Nat → Prop} {al : Option Addr} {cap : Nat} {L : List Lx.T} {p lev : Nat} {wa : Option Addr} {wc : Nat} {ws : List Wb} {y : X} {ay : Option Addr} {cy h : Nat}
end
end Go.Proofs.YtmkllibfblacfaaGreatDoor

/-
  A region that draws its order, walked in a plan of two stages: behind the first stage, for which all the others wait, another condition on the world holds. One walk.
-/
namespace Go.Proofs.YtmkllibfblacfaaGreatDoor
open Go.RowKit
section
variable {P : Program} {ops : Array Oper} {md : Region.Mode} {S : World → Prop} {Q : Exit → Act → World → Prop}
end
end Go.Proofs.YtmkllibfblacfaaGreatDoor

/-
  A region that draws its order, walked in a plan of two stages, the last two operations of which may come in either order ('x.f = append(x.f, v)' of an element of many cells: which store is the last is left open). One walk, but for these two.
-/
namespace Go.Proofs.YtmkllibfblacfaaGreatDoor
open Go.RowKit
section
variable {P : Program} {ops : Array Oper} {md : Region.Mode} {S : World → Prop} {Q : Exit → Act → World → Prop}
/-- each operation from n on waits for all ahead of n -/
def allB (md : Region.Mode) (ops : Array Oper) (n : Nat) : Bool :=
  (List.range ops.size).all fun t => decide (t < n) || (List.range n).all fun i => Region.waitsFor md ops t i
end
end Go.Proofs.YtmkllibfblacfaaGreatDoor

/-
  Layer 14, the program's: a part that was read is handed to what waits for it.
-/
namespace Go.Proofs.YtmkllibfblacfaaGreatDoor
open Go.RowKit
open Sx (X toksOf isT)
/-- a cell of an element of a list in block g, written -/
theorem owL_store1 {α : Type} {f : α → List Value} {E k B n c g : Nat} {w : World} {l : List α} (hf : ∀ x, (f x).length = k) (h : OwL f E k w B (.slice (some ⟨g, 0, none⟩) n c) l) (i : Nat) (hi : i < l.length) {j : Nat} (hj : j < k) (u : Value) (y' : α) (hy : f y' = (f l[i]).set j u) :
    OwL f E k (w.setCell ⟨g, i * k + j, none⟩ u) B (.slice (some ⟨g, 0, none⟩) n c) (l.set i y') := by
  obtain ⟨g', c', e, _, h2, _⟩ := owL_store hf h i hi hj u y' hy
  injection e with e1 e2 e3
  injection e1 with e1
  injection e1 with e1
  subst e1
  exact h2
theorem set_last {α : Type} (l : List α) (z z' : α) : (l ++ [z]).set l.length z' = l ++ [z'] := by
  rw [List.set_append_right _ _ (Nat.le_refl _), Nat.sub_self]; rfl
theorem owL_last1 {α : Type} {f : α → List Value} {E k B n c g : Nat} {w : World} {l : List α} {z : α} (hf : ∀ x, (f x).length = k) (h : OwL f E k w B (.slice (some ⟨g, 0, none⟩) n c) (l ++ [z])) {j : Nat} (hj : j < k) (u : Value) (z' : α) (hy : f z' = (f z).set j u) :
    OwL f E k (w.setCell ⟨g, l.length * k + j, none⟩ u) B (.slice (some ⟨g, 0, none⟩) n c) (l ++ [z']) := by
  have := owL_store1 hf h l.length (by simp) hj u z' (by rw [show (l ++ [z])[l.length]'(by simp) = z by simp]; exact hy)
  rwa [set_last] at this
section
variable {w w' : World} {R B : Nat} {S : Nat → Prop} {al : Option Addr} {cap : Nat} {L : List Lx.T} {p lev : Nat} {wa : Option Addr} {wc : Nat} {V : List Wb} {b : Wb} {y : X} {ay : Option Addr} {cy h : Nat}
end
end Go.Proofs.YtmkllibfblacfaaGreatDoor

/-
  Layer 14, the program's: the function that goes through an expression and all within it.
-/
namespace Go.Proofs.YtmkllibfblacfaaGreatDoor
open Go.RowKit Go.Shelf
open Sx (X toksOf isT)
attribute [local go_sem] Oper.semAt_some
namespace Sx
mutual
/-- an expression and all within it, each ahead of its parts, with how deep it stands -/
def po : X → Nat → List (X × Nat)
  | .mk o v s l, d => (.mk o v s l, d) :: poL l (d + 1)
def poL : List X → Nat → List (X × Nat)
  | [], _ => []
  | x :: r, d => po x d ++ poL r d
end
theorem po_eq (x : X) (d : Nat) : po x d = (x, d) :: poL x.l (d + 1) := by obtain ⟨_, _, _, _⟩ := x; rw [po]; rfl
theorem poL_drop (l : List X) (i d : Nat) (h : i < l.length) : poL (l.drop i) d = po l[i] d ++ poL (l.drop (i + 1)) d := by
  rw [List.drop_eq_getElem_cons h, poL]
end Sx
/-- a step on the way: where its expression stands (its cell, what it is, where its list lies), how many of its parts were gone through -/
structure St14 where
  b : Nat
  o : Nat
  x : X
  a : Option Addr
  c : Nat
  d : Nat
abbrev fS (t : St14) : List Value := [.pointer (some ⟨t.b, t.o, none⟩), .int .i64 (t.d : Int)]
theorem step_parts : (Tryz.prog.info? 119).map (fun i => (i.zero, i.size, i.bytes)) = some (some (.agg #[.pointer none, .int .i64 0]), 2, 16) := by kernel_rfl
theorem step_elem : ElemOk Tryz.prog 119 2 16 := elemOk_of step_parts rfl (by decide) (by decide)
theorem fS_one (t : St14) : ∀ u ∈ fS t, u.oneCell' = true := by intro u hu; simp [fS] at hu; rcases hu with rfl | rfl <;> rfl
/-- what is still to be gone through, of steps from the outermost on -/
def todo : Nat → List St14 → List (X × Nat)
  | _, [] => []
  | i, t :: r => todo (i + 1) r ++ Sx.poL (t.x.l.drop t.d) (i + 2)
theorem todo_snoc : ∀ (i : Nat) (P : List St14) (t : St14), todo i (P ++ [t]) = Sx.poL (t.x.l.drop t.d) (i + P.length + 2) ++ todo i P
  | i, [], t => by simp [todo]
  | i, s :: P, t => by
    rw [List.cons_append, todo, todo_snoc (i + 1) P t, todo, List.length_cons, List.append_assoc, show i + 1 + P.length + 2 = i + (P.length + 1) + 2 by omega]
mutual
theorem xat_det {w : World} {S S' : Nat → Prop} : ∀ (x x' : X) (ad : Option Addr), XAt w S x ad → XAt w S' x' ad → x.l.length = x'.l.length → x.l = x'.l
  | .mk _ _ _ l, .mk _ _ _ l', ad, h, h', hl => by
    rw [XAt] at h h'
    rcases h with h | ⟨b, o, h1, _, h3⟩
    · subst h
      exact (List.length_eq_zero_iff.1 hl.symm).symm
    · rcases h' with h' | ⟨b', o', h1', _, h3'⟩
      · subst h'
        exact List.length_eq_zero_iff.1 hl
      · rw [h1] at h1'
        injection h1' with h1'
        injection h1' with e1 e2 e3
        subst e1; subst e2
        exact lat_det l l' b o h3 h3' hl
theorem lat_det {w : World} {S S' : Nat → Prop} : ∀ (l l' : List X) (b o : Nat), LAt w S l b o → LAt w S' l' b o → l.length = l'.length → l = l'
  | [], [], _, _, _, _, _ => rfl
  | [], _ :: _, _, _, _, _, h => by simp at h
  | _ :: _, [], _, _, _, _, h => by simp at h
  | x :: r, x' :: r', b, o, h, h', hl => by
    rw [LAt] at h h'
    obtain ⟨⟨a, c, h1, h2⟩, h3⟩ := h
    obtain ⟨⟨a', c', h1', h2'⟩, h3'⟩ := h'
    rw [lat_det r r' b (o + 6) h3 h3' (by simpa using hl)]
    obtain ⟨q0, q1, q2, q3, q4, q5⟩ := h1
    obtain ⟨p0, p1, p2, p3, p4, p5⟩ := h1'
    have e0 := Option.some.inj (q0.symm.trans p0)
    have e1 := Option.some.inj (q1.symm.trans p1)
    have e2 := Option.some.inj (q2.symm.trans p2)
    have e3 := Option.some.inj (q3.symm.trans p3)
    have e4 := Option.some.inj (q4.symm.trans p4)
    have e5 := Option.some.inj (q5.symm.trans p5)
    injection e0 with _ e0; injection e1 with _ e1; injection e2 with _ e2; injection e3 with e3; injection e4 with e4; injection e5 with e5 e6 _
    subst e5
    have hk := xat_det x x' a h2 h2' e6
    obtain ⟨xo, ⟨xk, xn, xs⟩, xt, xl⟩ := x
    obtain ⟨yo, ⟨yk, yn, ys⟩, yt, yl⟩ := x'
    simp only [Sx.op_mk, Sx.v_mk, Sx.s_mk, Sx.l_mk] at e0 e1 e2 e3 e4 hk
    subst e0; subst e1; subst e2; subst e3; subst e4; subst hk
    rfl
end
/-- one place, one expression -/
theorem cells6_det {w : World} {S S' : Nat → Prop} {b o : Nat} {x x' : X} {a a' : Option Addr} {c c' : Nat} (h : Cells6 w b o x a c) (h' : Cells6 w b o x' a' c') (hx : XAt w S x a) (hx' : XAt w S' x' a') : x = x' := by
  have := lat_det (S := S) (S' := S') [x] [x'] b o (by rw [LAt, LAt]; exact ⟨⟨a, c, h, hx⟩, trivial⟩) (by rw [LAt, LAt]; exact ⟨⟨a', c', h', hx'⟩, trivial⟩) rfl
  injection this
theorem xat_in {w : World} {S : Nat → Prop} {b o : Nat} : ∀ (x : X) (ad : Option Addr), XAt w S x ad → 0 < x.l.length → ad = some ⟨b, o, none⟩ → S b
  | .mk _ _ _ l, ad, h, hl, e => by
    rw [XAt] at h
    rcases h with h | ⟨b', o', e', hb, _⟩
    · subst h; exact absurd hl (Nat.not_lt_zero _)
    · rw [e] at e'; cases e'; exact hb
mutual
theorem xat_same {w W : World} {S : Nat → Prop} (hs : ∀ j, S j → W.heap[j]? = w.heap[j]?) : ∀ (x : X) (ad : Option Addr), XAt w S x ad → XAt W S x ad
  | .mk _ _ _ l, ad, h => by
    rw [XAt] at h ⊢
    rcases h with h | ⟨b, o, h1, h2, h3⟩
    · exact .inl h
    · exact .inr ⟨b, o, h1, h2, lat_same hs l b o h2 h3⟩
theorem lat_same {w W : World} {S : Nat → Prop} (hs : ∀ j, S j → W.heap[j]? = w.heap[j]?) : ∀ (l : List X) (b o : Nat), S b → LAt w S l b o → LAt W S l b o
  | [], _, _, _, _ => by rw [LAt]; trivial
  | x :: r, b, o, hb, h => by
    rw [LAt] at h ⊢
    obtain ⟨⟨a, c, h1, h2⟩, h3⟩ := h
    have e : ∀ i, W.cell? ⟨b, i, none⟩ = w.cell? ⟨b, i, none⟩ := fun i => World.cell?_of_block (hs b hb)
    exact ⟨⟨a, c, ⟨(e _).trans h1.1, (e _).trans h1.2.1, (e _).trans h1.2.2.1, (e _).trans h1.2.2.2.1, (e _).trans h1.2.2.2.2.1, (e _).trans h1.2.2.2.2.2⟩, xat_same hs x a h2⟩, lat_same hs r b (o + 6) hb h3⟩
end
section
variable {w0 : World} {m bx : Nat} {Gd : X → Option Addr → Prop} {mk : Prop} {x : X} {a : Option Addr} {c : Nat}
/-- what is handed out -/
abbrev PA (w0 : World) (m : Nat) (Gd : X → Option Addr → Prop) (mk : Prop) := { y : X × Option Addr × Nat × Nat // ((XAt w0 (fun j => j < m) y.1 y.2.1 ∧ Gd y.1 y.2.1) ∨ (mk ∧ y.1 = Sx.no)) ∧ y.2.2.2 ≤ 2000 }
abbrev encP (y : PA w0 m Gd mk) : Array Value := #[xV y.1.1 y.1.2.1 y.1.2.2.1, .int .i64 (y.1.2.2.2 : Int)]
abbrev pxd (y : PA w0 m Gd mk) : X × Nat := (y.1.1, y.1.2.2.2)
/-- the way into x -/
structure WayOk (w0 : World) (m bx : Nat) (Gd : X → Option Addr → Prop) (x : X) (a : Option Addr) (c : Nat) (P : List St14) : Prop where
  at_ : ∀ t ∈ P, (t.b < m ∧ Cells6 w0 t.b t.o t.x t.a t.c) ∨ (t.b = bx ∧ t.o = 0 ∧ t.x = x ∧ t.a = a ∧ t.c = c)
  sub : ∀ t ∈ P, XAt w0 (fun j => j < m) t.x t.a ∧ Gd t.x t.a ∧ t.d ≤ t.x.l.length
  less : P.Pairwise (fun s t => Sx.deep t.x < Sx.deep s.x)
  few : ∀ i (h : i < P.length), Sx.deep P[i].x + i ≤ 1000
/-- what a round keeps -/
def KpP (m bx B2 : Nat) (W W' : World) : Prop := W.heap.size ≤ W'.heap.size ∧ (∀ j, (j < m ∨ j = bx) → j < W.heap.size → W'.heap[j]? = W.heap[j]?) ∧ (∀ (j : Nat) cs fz, W.heap[j]? = some (.cells cs 119 fz) → W'.heap[j]? = W.heap[j]?) ∧ (∀ (j : Nat) (o : Obj), B2 ≤ j → W.heap[j]? = some o → o.isCells = false → W'.heap[j]? = some o)
theorem kpP_t {B2 : Nat} {A B C : World} (h : KpP m bx B2 A B) (k : KpP m bx B2 B C) : KpP m bx B2 A C :=
  ⟨Nat.le_trans h.1 k.1, fun j hj hl => (k.2.1 j hj (Nat.lt_of_lt_of_le hl h.1)).trans (h.2.1 j hj hl), fun j cs fz hc => (k.2.2.1 j cs fz ((h.2.2.1 j cs fz hc).trans hc)).trans (h.2.2.1 j cs fz hc), fun j o hB ho hn => k.2.2.2 j o hB (h.2.2.2 j o hB ho hn) hn⟩
theorem kpP_below {B2 : Nat} {W W' : World} (hb : Below W.heap.size W W') : KpP m bx B2 W W' :=
  ⟨hb.size, fun j _ hl => hb.block j hl, fun j _ _ hc => hb.block j (Array.getElem?_eq_some_iff.1 hc).1, fun j _ _ ho _ => (hb.block j (Array.getElem?_eq_some_iff.1 ho).1).trans ho⟩
theorem surv_only {B T : Nat} {J : World → Prop} (h : Surv B T J) {A A' : World} {r : Option Nat} (hJ : J A) (ho : Only (fun j => r = some j) A A') (hr : ∀ j, r = some j → B ≤ j ∧ ∃ cs fz, A.heap[j]? = some (.cells cs T fz)) : J A' :=
  h A A' r hJ ⟨ho.os, ho.tape, ho.output, ho.size, fun k hk hn => ho.block k hk fun e => hn e.symm⟩ hr
theorem surv_below {B T : Nat} {J : World → Prop} (h : Surv B T J) {A A' : World} (hJ : J A) (hb : Below A.heap.size A A') : J A' :=
  surv_only h (r := none) hJ (Only.of_none (F := fun _ => False) hb |>.mono fun k _ e => e.elim) fun j e => by cases e
/-- a list of steps lies in cells of steps -/
theorem owS_cells {W : World} {B : Nat} {v : Value} {P : List St14} (h : OwL fS 119 2 W B v P) : ∀ j, v.ownBlock = some j → B ≤ j ∧ ∃ cs fz, W.heap[j]? = some (.cells cs 119 fz) := by
  intro j e
  rcases h.2 with ⟨rfl, _⟩ | ⟨g, cap, cur, rfl, hb, hh, _⟩
  · cases e
  · have e2 : g = j := by simpa [Value.ownBlock] using e
    subst e2
    exact ⟨hb, cur, (0, 0), hh⟩
theorem owS_kp {W W' : World} {B B2 : Nat} {v : Value} {P : List St14} (h : OwL fS 119 2 W B v P) (hk : KpP m bx B2 W W') : OwL fS 119 2 W' B v P := by
  refine ⟨h.1, ?_⟩
  rcases h.2 with hn | ⟨g, cap, cur, rfl, hb, hh, r⟩
  · exact .inl hn
  · exact .inr ⟨g, cap, cur, rfl, hb, (hk.2.2.1 g _ _ hh).trans hh, r⟩
/-- the world as it stands beside the way -/
def Side (w0 W : World) (m bx : Nat) (x : X) (a : Option Addr) (c : Nat) : Prop := (∀ j, j < m → W.heap[j]? = w0.heap[j]?) ∧ RowV W bx 43 (xC x a c).toList ∧ m ≤ bx ∧ m ≤ w0.heap.size
theorem side_only {F : Nat → Prop} {W W' : World} (h : Side w0 W m bx x a c) (ho : Only F W W') (hF : ∀ j, F j → m ≤ j ∧ j ≠ bx) : Side w0 W' m bx x a c := by
  refine ⟨fun j hj => ?_, rowV_only h.2.1 ho (fun e => (hF bx e).2 rfl), h.2.2⟩
  have hlt : j < W.heap.size := Nat.lt_trans (Nat.lt_of_lt_of_le hj h.2.2.1) (rowV_lt h.2.1)
  exact (ho.block j hlt fun e => by have := (hF j e).1; omega).trans (h.1 j hj)
theorem side_below {W W' : World} (h : Side w0 W m bx x a c) (hb : Below W.heap.size W W') : Side w0 W' m bx x a c := side_only h (Only.of_none (F := fun _ => False) hb) fun _ h => h.elim
theorem side_kp {W W' : World} {B2 : Nat} (h : Side w0 W m bx x a c) (hk : KpP m bx B2 W W') : Side w0 W' m bx x a c := by
  have hl := rowV_lt h.2.1
  exact ⟨fun j hj => (hk.2.1 j (.inl hj) (by have := h.2.2.1; omega)).trans (h.1 j hj), (hk.2.1 bx (.inr rfl) hl).trans h.2.1, h.2.2⟩
theorem side_cells {W : World} {b o : Nat} {y : X} {ay : Option Addr} {cy : Nat} (h : Side w0 W m bx x a c) (hb : b < m) (hc : Cells6 w0 b o y ay cy) : Cells6 W b o y ay cy := by
  have e : ∀ i, W.cell? ⟨b, i, none⟩ = w0.cell? ⟨b, i, none⟩ := fun i => World.cell?_of_block (h.1 b hb)
  exact ⟨(e _).trans hc.1, (e _).trans hc.2.1, (e _).trans hc.2.2.1, (e _).trans hc.2.2.2.1, (e _).trans hc.2.2.2.2.1, (e _).trans hc.2.2.2.2.2⟩
theorem way_cells {W : World} {P : List St14} (h : Side w0 W m bx x a c) (hw : WayOk w0 m bx Gd x a c P) : ∀ t ∈ P, Cells6 W t.b t.o t.x t.a t.c := fun t ht => by
  rcases hw.at_ t ht with ⟨h1, h2⟩ | ⟨rfl, h2, rfl, rfl, rfl⟩
  · exact side_cells h h1 h2
  · rw [h2]; exact x_cells h.2.1
/-- the next part of the last step: where it stands, and that it stands nowhere on the way -/
theorem way_next {W : World} {P : List St14} {t : St14} (hS : Side w0 W m bx x a c) (hw : WayOk w0 m bx Gd x a c (P ++ [t])) (hd : t.d < t.x.l.length) : ∃ b o ay cy, t.a = some ⟨b, o, none⟩ ∧ b < m ∧ Cells6 w0 b (o + t.d * 6) t.x.l[t.d] ay cy ∧ XAt w0 (fun j => j < m) t.x.l[t.d] ay ∧
    ∀ s ∈ P ++ [t], (⟨s.b, s.o, none⟩ : Addr) ≠ ⟨b, o + t.d * 6, none⟩ := by
  have ht := hw.sub t (by simp)
  obtain ⟨b, o, ay, cy, h1, h2, h3⟩ := xat_at ht.1 t.d hd
  have hb : b < m := xat_in (S := fun j => j < m) t.x t.a ht.1 (Nat.lt_of_le_of_lt (Nat.zero_le _) hd) h1
  refine ⟨b, o, ay, cy, h1, hb, h2, h3, fun s hs e => ?_⟩
  injection e with e1 e2 _
  have hc := way_cells hS hw s hs
  rw [e1, e2] at hc
  have hcW := side_cells hS hb h2
  -- both are read at one place
  have hdeep : Sx.deep t.x.l[t.d] < Sx.deep s.x := by
    have h4 := Sx.deep_at hd
    rw [List.mem_append, List.mem_singleton] at hs
    rcases hs with hs | rfl
    · exact Nat.lt_trans h4 ((List.pairwise_append.1 hw.less).2.2 s hs t (by simp))
    · exact h4
  have hxs : XAt W (fun j => j < m) s.x s.a := xat_same hS.1 _ _ (hw.sub s hs).1
  have hxy : XAt W (fun j => j < m) t.x.l[t.d] ay := xat_same hS.1 _ _ h3
  have := cells6_det hc hcW hxs hxy
  rw [this] at hdeep
  exact Nat.lt_irrefl _ hdeep
end
end Go.Proofs.YtmkllibfblacfaaGreatDoor

/-
  Layer 14, the program's: the function that goes through an expression, walked.
-/
namespace Go.Proofs.YtmkllibfblacfaaGreatDoor
open Go.RowKit Go.Shelf
open Sx (X toksOf isT)
attribute [local go_sem] Oper.semAt_some
theorem expr_ptr : (Tryz.prog.info? 43).map (·.size) = some 6 := by kernel_rfl
/-- two places are compared: they are not one; but where a block is marked the model leaves it open -/
theorem ptr_cmp14 (W : World) (p q : Addr) (hne : p ≠ q) {ca cb : Array Value} {ta tb : TypeId} {fa fb : Nat × Nat} (fp : W.frozen? p = false) (ha : W.heap[p.block]? = some (.cells ca ta fa)) (hb : W.heap[q.block]? = some (.cells cb tb fb)) (sa : ca.size ≠ 0) (sb : cb.size ≠ 0) :
    ∃ bb k, (binOp .eql 117 (.pointer (some p)) (.pointer (some q))).run Tryz.prog W = .ok (.bool bb) (W.drewN k) ∧ ((p.block = q.block ∨ fa = (0, 0)) → bb = false) := by
  obtain ⟨j, hj, hs⟩ := Option.map_eq_some_iff.1 expr_ptr
  have hp := Tryz.underlying117
  have hred : ∀ (bb : Bool) (W' : World), (sameAddr p q).run Tryz.prog W = .ok bb W' → (binOp .eql 117 (.pointer (some p)) (.pointer (some q))).run Tryz.prog W = .ok (.bool bb) W' := fun bb W' h => by
    have h1 : ∀ d : Nat, (Op.equalIn (d + 1) 117 (.pointer (some p)) (.pointer (some q))).run Tryz.prog W = .ok bb W' := fun d => by
      simp [Op.equalIn, run_underlying hp, sizeOf, typeInfo, hj, hs, h]
    simp only [binOp]
    simp [Op.equal, Op.maxDepth, h1 9999]
  by_cases hbl : p.block = q.block
  · exact ⟨false, 0, hred _ _ (by simp [sameAddr, hbl, hne, World.drewN]), fun _ => rfl⟩
  · obtain ⟨lo, hi⟩ := fa
    obtain ⟨l2, h2⟩ := fb
    obtain ⟨n1, e1⟩ := Nat.exists_eq_succ_of_ne_zero sa
    obtain ⟨n2, e2⟩ := Nat.exists_eq_succ_of_ne_zero sb
    simp only [World.frozen?, ha] at fp
    generalize hr : (sameAddr p q).run Tryz.prog W = r at hred
    simp [sameAddr, hbl, World.frozen?, ha, hb, fp, noView, viewAt, World.shape?, mayBeOne, stringish, e1, e2] at hr
    have h1 : W.drew = W.drewN 1 := rfl
    split at hr
    · split at hr
      · rename_i hc
        split at hr
        · exact ⟨false, 0, hred _ _ hr.symm, fun _ => rfl⟩
        · rw [h1] at hr
          refine ⟨_, 1, hred _ _ hr.symm, fun h => ?_⟩
          rcases h with h | h
          · exact absurd h hbl
          · have h4 : hi = 0 := congrArg Prod.snd h
            rw [h4] at hc
            exact absurd hc.2 (Nat.not_lt_zero _)
      · exact ⟨false, 0, hred _ _ hr.symm, fun _ => rfl⟩
    · split at hr
      · rename_i hc
        split at hr
        · exact ⟨false, 0, hred _ _ hr.symm, fun _ => rfl⟩
        · rw [h1] at hr
          refine ⟨_, 1, hred _ _ hr.symm, fun h => ?_⟩
          rcases h with h | h
          · exact absurd h hbl
          · have h4 : hi = 0 := congrArg Prod.snd h
            rw [h4] at hc
            exact absurd hc.1.2 (Nat.not_lt_zero _)
      · exact ⟨false, 0, hred _ _ hr.symm, fun _ => rfl⟩
theorem cell_cells {w : World} {g i : Nat} {v : Value} (h : w.cell? ⟨g, i, none⟩ = some v) : ∃ cs T fz, w.heap[g]? = some (.cells cs T fz) ∧ cs.size ≠ 0 := by
  unfold World.cell? at h
  rcases hb : w.heap[g]? with _ | o
  · simp [hb] at h
  · cases o <;> simp [hb] at h
    rename_i cs T fz
    refine ⟨cs, T, fz, rfl, fun e => ?_⟩
    have hc : cs = #[] := Array.eq_empty_of_size_eq_zero e
    subst hc
    simp at h
section
variable {w0 : World} {m bx B : Nat} {Gd : X → Option Addr → Prop} {mk : Prop} {x : X} {a : Option Addr} {c : Nat}
/-- where the function stands: what it handed out, and the way -/
structure PInv (w0 : World) (m bx B : Nat) (Gd : X → Option Addr → Prop) (mk : Prop) (x : X) (a : Option Addr) (c : Nat) (J : List (PA w0 m Gd mk) → World → Prop) (pre : List (PA w0 m Gd mk)) (P : List St14) (v : Value) (W : World) : Prop where
  say : pre.map pxd ++ todo 0 P = Sx.po x 1
  j : J pre W
  side : Side w0 W m bx x a c
  way : WayOk w0 m bx Gd x a c P
  own : OwL fS 119 2 W B v P
variable {J : List (PA w0 m Gd mk) → World → Prop} {pre : List (PA w0 m Gd mk)} {P : List St14} {t : St14} {v : Value} {W W' : World}
theorem pinv_below (hJ : ∀ s, Surv B 119 (J s)) (h : PInv w0 m bx B Gd mk x a c J pre P v W) (hb : Below W.heap.size W W') : PInv w0 m bx B Gd mk x a c J pre P v W' :=
  ⟨h.say, surv_below (hJ _) h.j hb, side_below h.side hb, h.way, owL_below h.own hb⟩
theorem way_front (h : WayOk w0 m bx Gd x a c (P ++ [t])) : WayOk w0 m bx Gd x a c P :=
  ⟨fun s hs => h.at_ s (List.mem_append_left _ hs), fun s hs => h.sub s (List.mem_append_left _ hs), (List.pairwise_append.1 h.less).1, fun i hi => by
    have := h.few i (by rw [List.length_append]; omega)
    rwa [List.getElem_append_left hi] at this⟩
/-- a step that was gone through -/
theorem pinv_pop {al : Option Addr} {n cp : Nat} (h : PInv w0 m bx B Gd mk x a c J pre (P ++ [t]) (.slice al (n + 1) cp) W) (hn : P.length = n) (hd : t.d = t.x.l.length) : PInv w0 m bx B Gd mk x a c J pre P (.slice al n cp) W := by
  refine ⟨?_, h.j, h.side, way_front h.way, owL_pop (f := fS) (fun _ => rfl) h.own hn⟩
  have := h.say
  rw [todo_snoc, hd, List.drop_length, Sx.poL, List.nil_append] at this
  exact this
/-- what the walk wants of the last step -/
theorem pinv_last {al : Option Addr} {n cp : Nat} (h : PInv w0 m bx B Gd mk x a c J pre (P ++ [t]) (.slice al n cp) W) : ∃ g, al = some ⟨g, 0, none⟩ ∧ n = P.length + 1 ∧ n ≤ cp ∧ cp ≤ maxLen ∧ B ≤ g ∧ g < W.heap.size ∧ n ≤ 1000 ∧
    W.cell? ⟨g, P.length * 2, none⟩ = some (.pointer (some ⟨t.b, t.o, none⟩)) ∧ W.cell? ⟨g, P.length * 2 + 1, none⟩ = some (.int .i64 (t.d : Int)) ∧ W.frozen? ⟨g, P.length * 2 + 1, none⟩ = false ∧
    W.cell? ⟨t.b, t.o + 5, none⟩ = some (.slice t.a t.x.l.length t.c) := by
  have hlen : (P ++ [t]).length = P.length + 1 := by simp
  have hi : P.length < (P ++ [t]).length := by omega
  obtain ⟨g, c', e, hc⟩ := owL_cell (f := fS) (fun _ _ => rfl) h.own P.length hi
  have e2 : (P ++ [t])[P.length] = t := by simp
  rw [e2] at hc
  injection e with e1 e3 e4
  subst e1
  have hlt := owL_lt h.own g rfl
  obtain ⟨_, _, ef, hcap, hmax, _⟩ := owL_form h.own
  injection ef with _ ef2 ef3
  have hfew := h.way.few P.length hi
  rw [e2] at hfew
  have hdp : 1 ≤ Sx.deep t.x := by rw [Sx.deep_eq]; omega
  refine ⟨g, rfl, by omega, by omega, by omega, hlt.1, hlt.2, by omega, (hc 0 _ rfl).1, (hc 1 _ rfl).1, (hc 1 _ rfl).2, (way_cells h.side h.way t (by simp)).2.2.2.2.2⟩
/-- the step's count is one more -/
theorem pinv_done (hJ : ∀ s, Surv B 119 (J s)) {g n cp : Nat} (h : PInv w0 m bx B Gd mk x a c J pre (P ++ [t]) (.slice (some ⟨g, 0, none⟩) n cp) W) (hm : m ≤ B) (hbx : bx < B) (hd : t.d < t.x.l.length) :
    ∃ wq : World, wq = W.setCell ⟨g, P.length * 2 + 1, none⟩ (.int .i64 ((t.d : Int) + 1)) ∧ J pre wq ∧ Side w0 wq m bx x a c ∧ WayOk w0 m bx Gd x a c (P ++ [{ t with d := t.d + 1 }]) ∧ OwL fS 119 2 wq B (.slice (some ⟨g, 0, none⟩) n cp) (P ++ [{ t with d := t.d + 1 }]) ∧
      Only (fun k => k = g) W wq := by
  have ho : Only (fun k => k = g) W (W.setCell ⟨g, P.length * 2 + 1, none⟩ (.int .i64 ((t.d : Int) + 1))) := Only.setCell (F := fun k => k = g) (Only.refl _ _) (fun _ => rfl) _
  have hg := owS_cells h.own g rfl
  refine ⟨_, rfl, surv_only (hJ pre) (r := some g) h.j (ho.mono fun k _ e => by rw [e]) (fun j e => by cases e; exact hg), side_only h.side ho fun j e => ?_, ⟨fun s hs => ?_, fun s hs => ?_, ?_, fun i hi => ?_⟩, owL_last1 (f := fS) (fun _ => rfl) h.own (by omega) _ _ rfl, ho⟩
  · have e2 : j = g := e
    have := hg.1
    omega
  · rw [List.mem_append, List.mem_singleton] at hs
    rcases hs with hs | rfl
    · exact h.way.at_ s (List.mem_append_left _ hs)
    · exact h.way.at_ t (by simp)
  · rw [List.mem_append, List.mem_singleton] at hs
    rcases hs with hs | rfl
    · exact h.way.sub s (List.mem_append_left _ hs)
    · have := h.way.sub t (by simp)
      exact ⟨this.1, this.2.1, hd⟩
  · have := h.way.less
    rw [List.pairwise_append] at this ⊢
    refine ⟨this.1, List.pairwise_singleton _ _, fun s hs u hu => ?_⟩
    rw [List.mem_singleton] at hu
    subst hu
    exact this.2.2 s hs t (by simp)
  · have := h.way.few i (by simpa using hi)
    by_cases hlt : i < P.length
    · rw [List.getElem_append_left hlt] at this ⊢
      exact this
    · obtain rfl : i = P.length := by simp at hi; omega
      simpa using this
/-- a part steps onto the way -/
theorem pinv_push {b o cy : Nat} {ay : Option Addr} (hw : WayOk w0 m bx Gd x a c (P ++ [{ t with d := t.d + 1 }])) (hd : t.d < t.x.l.length) (hb : b < m) (hc : Cells6 w0 b o t.x.l[t.d] ay cy) (hx : XAt w0 (fun j => j < m) t.x.l[t.d] ay) (hG : Gd t.x.l[t.d] ay) :
    WayOk w0 m bx Gd x a c ((P ++ [{ t with d := t.d + 1 }]) ++ [⟨b, o, t.x.l[t.d], ay, cy, 0⟩]) := by
  have hdp := Sx.deep_at hd
  refine ⟨fun s hs => ?_, fun s hs => ?_, ?_, fun i hi => ?_⟩
  · rw [List.mem_append, List.mem_singleton] at hs
    rcases hs with hs | rfl
    · exact hw.at_ s hs
    · exact .inl ⟨hb, hc⟩
  · rw [List.mem_append, List.mem_singleton] at hs
    rcases hs with hs | rfl
    · exact hw.sub s hs
    · exact ⟨hx, hG, Nat.zero_le _⟩
  · rw [List.pairwise_append]
    refine ⟨hw.less, List.pairwise_singleton _ _, fun s hs u hu => ?_⟩
    rw [List.mem_singleton] at hu
    subst hu
    rw [List.mem_append, List.mem_singleton] at hs
    rcases hs with hs | rfl
    · exact Nat.lt_trans hdp ((List.pairwise_append.1 hw.less).2.2 s hs { t with d := t.d + 1 } (by simp))
    · exact hdp
  · by_cases hlt : i < (P ++ [{ t with d := t.d + 1 }]).length
    · have := hw.few i hlt
      rw [List.getElem_append_left hlt]
      exact this
    · obtain rfl : i = (P ++ [{ t with d := t.d + 1 }]).length := by rw [List.length_append] at hi; simp at hi hlt ⊢; omega
      have := hw.few P.length (by simp)
      simp only [List.getElem_concat_length, List.length_append, List.length_singleton] at this ⊢
      omega
theorem say_push {b o cy : Nat} {ay : Option Addr} (h : pre.map pxd ++ todo 0 (P ++ [t]) = Sx.po x 1) (hd : t.d < t.x.l.length) : pre.map pxd ++ (t.x.l[t.d], P.length + 2) :: todo 0 ((P ++ [{ t with d := t.d + 1 }]) ++ [⟨b, o, t.x.l[t.d], ay, cy, 0⟩]) = Sx.po x 1 := by
  rw [todo_snoc, Sx.poL_drop _ _ _ hd, Sx.po_eq] at h
  rw [todo_snoc, todo_snoc, List.drop_zero, ← h]
  simp [Nat.add_assoc]
end
end Go.Proofs.YtmkllibfblacfaaGreatDoor

/-
  Layer 14, the program's: a part that was read is handed to an op that waits for it: that waits for more, or is whole.
-/
namespace Go.Proofs.YtmkllibfblacfaaGreatDoor
open Go.RowKit
open Sx (X toksOf isT)
/-- the op that waits, with one part more -/
abbrev wbMore (b : Wb) (gg cp : Nat) (y : X) (ay : Option Addr) (cy : Nat) : Wb := ⟨b.op, b.lev, some ⟨gg, 0, none⟩, cp, b.l ++ [(y, ay, cy)]⟩
section
variable {w w' : World} {R B : Nat} {S : Nat → Prop} {al : Option Addr} {cap : Nat} {L : List Lx.T} {p lev : Nat} {wc : Nat} {V : List Wb} {b : Wb} {y : X} {ay : Option Addr} {cy h g : Nat}
/-- what an append of the part that was read leaves, whichever store comes last -/
structure Handed (w wz : World) (B : Nat) (g gg cp wc : Nat) (V : List Wb) (b : Wb) (y : X) (ay : Option Addr) (cy : Nat) : Prop where
  own : OwL fX 43 6 wz B (.slice (some ⟨gg, 0, none⟩) (b.l.length + 1) cp) (b.l ++ [(y, ay, cy)])
  wts : OwL fB 238 3 wz B (.slice (some ⟨g, 0, none⟩) (V.length + 1) wc) (V ++ [wbMore b gg cp y ay cy])
  only : Only (fun k => b.v.ownBlock = some k ∨ k = g) w wz
  fresh : b.v.ownBlock = some gg ∨ w.heap.size ≤ gg
end
theorem owL_at1 {α : Type} {f : α → List Value} {E k B n c g : Nat} {w : World} {l : List α} (hf : ∀ x ∈ l, (f x).length = k) (h : OwL f E k w B (.slice (some ⟨g, 0, none⟩) n c) l) (i : Nat) (hi : i < l.length) : ∀ j u, (f l[i])[j]? = some u → w.cell? ⟨g, i * k + j, none⟩ = some u ∧ w.frozen? ⟨g, i * k + j, none⟩ = false := by
  obtain ⟨g', c', e, hc⟩ := owL_cell hf h i hi
  injection e with e1 _ _
  injection e1 with e1
  injection e1 with e1
  subst e1
  exact hc
section
variable {w w' : World} {R B : Nat} {S : Nat → Prop} {al : Option Addr} {cap : Nat} {L : List Lx.T} {p lev : Nat} {wa : Option Addr} {wc : Nat} {V : List Wb} {b : Wb} {y : X} {ay : Option Addr} {cy h : Nat}
end
end Go.Proofs.YtmkllibfblacfaaGreatDoor

/-
  An append of one element, as an operation of a walk in a fence.
-/
namespace Go.Proofs.YtmkllibfblacfaaGreatDoor
open Go.RowKit
section
variable {α : Type} {f : α → List Value} {E k bytes : Nat} {P : Program} {w : World} {B : Nat}
/-- one element more, as an operation of a walk in a fence: its box at block N -/
theorem wpListIn_append_one14 {F : Fence} {n : Nat} (he : ElemOk P E k bytes) {ops : Array Oper} {rest : List Oper} {o : Oper} {a : Act} {Q : Exit → Act → World → Prop} (hgd : o.guard = none) (s x : Operand) (t : TypeId)
    (ho : o.op = .call { callee := .builtin .append, args := #[s, x], argTypes := #[t, t] }) (ht : P.underlying t = some (.slice E)) (v : Value) (l : List α) (y : α) (hs : a.eval s = v) (hown : OwL f E k w B v l) (N c : Nat) (hx : a.eval x = .slice (some ⟨N, 0, none⟩) 1 c)
    (hN : RowV w N E (f y)) (hfl : (f y).length = k) (h1 : ∀ u ∈ f y, u.oneCell' = true) (hl : l.length ≤ 1000000) (hB : B ≤ w.heap.size)
    (h : ∀ v' w', OwL f E k w' B v' (l ++ [y]) → Only (fun j => v.ownBlock = some j) w w' → wpListIn F n P ops Q rest (a.put o.dst v') w') :
    wpListIn F n P ops Q (o :: rest) a w := by
  obtain ⟨i, z, hi, hz, hsz, hby, hzs, hk, hb⟩ := he
  refine wpListIn_append_own w hgd s x t ho B E i z k bytes ht hi hz hsz hby hzs hk v l.length (l.flatMap f) hs hown ⟨N, 0, none⟩ 1 c (f y) hx (by rw [hfl, Nat.one_mul]) (fun j u hj => by rw [Addr.add_mid, Nat.zero_add, rowV_cell hN]; exact hj) h1 (by unfold maxLen; omega) ?_ hB ?_
  · have := Nat.mul_le_mul (show l.length + 1 ≤ 1000001 by omega) hb
    omega
  · intro v' w' h2 h3 _
    refine h v' w' ?_ ((Only.refl _ w).grown h3 fun j _ e => e)
    unfold OwL
    rw [List.flatMap_append, List.length_append]
    simpa using h2
end
end Go.Proofs.YtmkllibfblacfaaGreatDoor
