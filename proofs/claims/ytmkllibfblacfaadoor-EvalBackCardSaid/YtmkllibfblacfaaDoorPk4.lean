/-
  Texts of the layers, part 4: LexProgB, SynPr1, SynRef1, ValRight, SynSame, SynSmall, SynOps, SynRight, OwnStr, SynNames, ValQuote, Rely, RelyC, ValDig, StrCmp, Itoa, ValText, SynWrite, SynText, SynRdr, SynOp, SynFst, SynPr2, SynFst2, SynPr3, SynRd, SynRd2, SynRd3, SynRd4, SynPr4, SynPr5, SynPr6, Plan2.
-/
import Derived.Test.YtmkllibfblacfaaDoorPk3
import Derived.Test.YtmkllibfblacfaaDoorPk2
import Derived.BigQuiet
import Derived.Deep.Cut
import Derived.Test.YtmkllibfblacfaaDoorPk1
import Derived.LoopTactic
import Derived.Laws.RangeAny
import Derived.Deep.RegionHeld3
import Derived.Laws.StructEq
import Derived.LaidEql
import Derived.Lib.OthersKept
import Derived.Orders
import Derived.StillTail
import Derived.IntWalk
import Derived.Lib.ItoaLen
import Derived.Lib.Bytealg
import Derived.Laws.Externs
import Derived.Shelf.Strconv.Itoa3
import Derived.Test.YtmkllibfblacfaaDoorProg
import Derived.WalkKit
/-
  Layer 13, the program's: names.
-/
namespace Go.Proofs.YtmkllibfblacfaaDoor
open Go.RowKit
namespace Lx
theorem numT_kind (l : List UInt8) (h : (numT l).2.2 = 0) : (numT l).1.kind = 2 := by
  revert h; unfold numT; split
  · intro h; exact absurd h (by decide)
  · split
    · intro h; exact absurd h (by decide)
    · intro _; rfl
theorem txtT_kind (l : List UInt8) (h : (txtT l).2.2 = 0) : (txtT l).1.kind = 3 := by
  revert h; unfold txtT; split
  · intro h; exact absurd h (by decide)
  · split
    · intro h; exact absurd h (by decide)
    · intro _; rfl
theorem markT_kind (l : List UInt8) (h : (markT l).2.2 = 0) : (markT l).1.kind = 4 := by
  revert h; unfold markT; split
  · intro _; rfl
  · intro h; exact absurd h (by decide)
theorem nameB_yes {s : ByteArray} (he : (one s.data.toList).2.2 = 0) (hk : (one s.data.toList).1.kind = 1) (hn : (one s.data.toList).2.1 = s.size) : nameB s = !reserved s.data.toList := by
  have hl : s.data.toList.length = s.size := Array.length_toList ..
  unfold nameB
  cases hd : s.data.toList with
  | nil => rw [hd] at he; exact absurd he (by decide)
  | cons c r =>
    rw [hd] at he hk hn
    rw [one_cons] at he hk hn
    by_cases hL : letter c = true
    · rw [if_pos hL] at he hk hn
      revert he hn
      unfold nameT
      split
      · intro _ he; exact absurd he (by decide)
      · rename_i h16
        intro hn _
        have hn : word false (c :: r) = s.size := hn
        have hm : ¬ s = Vl.mt := fun e => by rw [e] at hd; cases hd
        rw [hn, decide_eq_false hm, decide_eq_true rfl, decide_eq_true (show s.size ≤ 16 by omega)]; rfl
    · rw [if_neg hL] at he hk
      by_cases hD : digit c = true
      · rw [if_pos hD] at he hk
        rw [numT_kind _ he] at hk; exact absurd hk (by decide)
      · rw [if_neg hD] at he hk
        by_cases hq : c = 34
        · rw [if_pos hq] at he hk
          rw [txtT_kind _ he] at hk; exact absurd hk (by decide)
        · rw [if_neg hq] at he hk
          rw [markT_kind _ he] at hk; exact absurd hk (by decide)
theorem nameB_no {s : ByteArray} (h : ¬ ((one s.data.toList).2.2 = 0 ∧ (one s.data.toList).1.kind = 1 ∧ (one s.data.toList).2.1 = s.size)) : nameB s = false := by
  cases hB : nameB s with
  | false => rfl
  | true =>
    exfalso
    apply h
    unfold nameB at hB
    simp only [Bool.and_eq_true, Bool.not_eq_true', decide_eq_false_iff_not, decide_eq_true_eq] at hB
    obtain ⟨⟨⟨hm, hw⟩, h16⟩, _⟩ := hB
    cases hd : s.data.toList with
    | nil => exact absurd (Sl.ba_ext (by rw [hd])) hm
    | cons c r =>
      rw [hd] at hw
      have hL : letter c = true := by
        cases hL : letter c with
        | true => rfl
        | false =>
          rw [word, hL] at hw
          have : s.size = 0 := by simpa using hw.symm
          have hl : s.data.toList.length = s.size := Array.length_toList ..
          rw [hd, List.length_cons] at hl
          omega
      rw [one_cons, if_pos hL]
      unfold nameT
      rw [if_neg (by omega)]
      exact ⟨rfl, rfl, hw⟩
end Lx
set_option maxRecDepth 100000 in
set_option maxHeartbeats 6400000 in
theorem Name13_any (s : ByteArray) (w : World) (hs : s.size ≤ 1000000) (hE : ErrR w) :
    Calls Tryd.prog 24 #[.string s] w fun e w' => e = .returned (.bool (Lx.nameB s)) ∧ Below w.heap.size w w' := by
  have hY := Lx.nameB_yes (s := s)
  have hN := Lx.nameB_no (s := s)
  have cF := first13_any s w hs hE
  have cR := fun w => reserved13_any s w
  generalize (Lx.one s.data.toList).2.1 = N at *
  generalize (Lx.one s.data.toList).2.2 = E at *
  generalize (Lx.one s.data.toList).1 = V at *
  obtain ⟨vk, vs, vn, va⟩ := V
  generalize Lx.nameB s = B at *
  generalize Lx.reserved s.data.toList = R at *
  have H := Lib.hid (And.intro cF cR)
  clear cF cR hE
  by_cases he : E = 0
  · have t1 : (E == 0) = true := by simpa using he
    by_cases hk : vk = 1
    · have t2 : (vk == 1) = true := by simpa using hk
      by_cases hn : N = s.size
      · have t3 : ((N : Int) == (s.size : Int)) = true := by simp; omega
        have HR := Lib.hid (hY he hk hn)
        clear hY hN he hk hn
        go_enter Tryd.func24, Tryd.ntmps24
        go_wp2_with fail
        refine H.out.1.mono ?_
        rintro e w1 ⟨rfl, hb1⟩
        obtain ⟨q0, q1, q2⟩ := tok_new ⟨vk, vs, vn, va⟩ w1
        obtain ⟨a0, a1, a2, a3, g0, g1, g2, g3⟩ := tok_cells (v := ⟨vk, vs, vn, va⟩) q0
        have L := Lib.hid (hb1.alloc hb1.size (.cells (tokC ⟨vk, vs, vn, va⟩) 74))
        clear hb1 q0 q1 q2
        go_upto_region 2 with (fail)
        generalize hws : World.alloc w1 _ = ws at *
        go_wp2_with (go_at_call 30; refine (H.out.2 _).mono ?_; rintro e w2 ⟨rfl, rfl⟩)
        go_ret
        exact ⟨ret_bool HR.out.symm, L.out⟩
      · have t3 : ((N : Int) == (s.size : Int)) = false := by simp; omega
        have HR := Lib.hid (hN fun x => hn x.2.2)
        clear hY hN he hk hn
        go_enter Tryd.func24, Tryd.ntmps24
        go_wp2_with fail
        refine H.out.1.mono ?_
        rintro e w1 ⟨rfl, hb1⟩
        obtain ⟨q0, q1, q2⟩ := tok_new ⟨vk, vs, vn, va⟩ w1
        obtain ⟨a0, a1, a2, a3, g0, g1, g2, g3⟩ := tok_cells (v := ⟨vk, vs, vn, va⟩) q0
        have L := Lib.hid (hb1.alloc hb1.size (.cells (tokC ⟨vk, vs, vn, va⟩) 74))
        clear hb1 q0 q1 q2
        go_upto_region 2 with (fail)
        generalize hws : World.alloc w1 _ = ws at *
        go_wp2_with fail
        go_ret
        exact ⟨ret_bool HR.out.symm, L.out⟩
    · have t2 : (vk == 1) = false := by simpa using hk
      have HR := Lib.hid (hN fun x => hk x.2.1)
      clear hY hN he hk
      go_enter Tryd.func24, Tryd.ntmps24
      go_wp2_with fail
      refine H.out.1.mono ?_
      rintro e w1 ⟨rfl, hb1⟩
      obtain ⟨q0, q1, q2⟩ := tok_new ⟨vk, vs, vn, va⟩ w1
      obtain ⟨a0, a1, a2, a3, g0, g1, g2, g3⟩ := tok_cells (v := ⟨vk, vs, vn, va⟩) q0
      have L := Lib.hid (hb1.alloc hb1.size (.cells (tokC ⟨vk, vs, vn, va⟩) 74))
      clear hb1 q0 q1 q2
      go_upto_region 2 with (fail)
      generalize hws : World.alloc w1 _ = ws at *
      go_wp2_with fail
      go_ret
      exact ⟨ret_bool HR.out.symm, L.out⟩
  · have t1 : (E == 0) = false := by simpa using he
    have HR := Lib.hid (hN fun x => he x.1)
    clear hY hN he
    go_enter Tryd.func24, Tryd.ntmps24
    go_wp2_with fail
    refine H.out.1.mono ?_
    rintro e w1 ⟨rfl, hb1⟩
    have L := Lib.hid (hb1.alloc hb1.size (.cells (tokC ⟨vk, vs, vn, va⟩) 74))
    clear hb1
    go_upto_region 2 with (fail)
    generalize hws : World.alloc w1 _ = ws at *
    go_wp2_with fail
    go_ret
    exact ⟨ret_bool HR.out.symm, L.out⟩
end Go.Proofs.YtmkllibfblacfaaDoor

/-
  Layer 14, the program's: the table of ops of two, and the small calls over it.
-/
namespace Go.Proofs.YtmkllibfblacfaaDoor
open Go.RowKit
open Sx (X toksOf isT)
/-- how many parts an op has (0 of what is none) -/
def cntP (op : Int) : Int := if op = 3 then 1 else if 4 ≤ op ∧ op ≤ 15 then 2 else if op = 16 then 3 else 0
set_option maxRecDepth 100000 in
theorem count14_any (op : Int) (w : World) : Calls Tryd.prog 25 #[.int .i64 op] w fun e w' => e = .returned (.int .i64 (cntP op)) ∧ w' = w := by
  unfold cntP
  by_cases h3 : op = 3
  · subst h3
    go_enter Tryd.func25, Tryd.ntmps25
    go_wp2_with fail
    go_ret
    exact ⟨rfl, rfl⟩
  · rw [if_neg h3]
    have t0 : (op == 3) = false := by simpa using h3
    by_cases h4 : 4 ≤ op
    · by_cases h15 : op ≤ 15
      · rw [if_pos ⟨h4, h15⟩]
        go_enter Tryd.func25, Tryd.ntmps25
        go_wp2_with fail
        go_ret
        exact ⟨rfl, rfl⟩
      · rw [if_neg (by omega)]
        by_cases h16 : op = 16
        · subst h16
          go_enter Tryd.func25, Tryd.ntmps25
          go_wp2_with fail
          go_ret
          exact ⟨rfl, rfl⟩
        · rw [if_neg h16]
          have t1 : (op == 16) = false := by simpa using h16
          go_enter Tryd.func25, Tryd.ntmps25
          go_wp2_with fail
          go_ret
          exact ⟨rfl, rfl⟩
    · rw [if_neg (by omega), if_neg (by omega)]
      have t1 : (op == 16) = false := by simp; omega
      go_enter Tryd.func25, Tryd.ntmps25
      go_wp2_with fail
      go_ret
      exact ⟨rfl, rfl⟩
theorem lvl_small {op : Int} : Sx.lvl op ≤ 7 := by unfold Sx.lvl; (repeat' split) <;> omega
/-- the op of two that is written so -/
def opW (s : ByteArray) : Option Int := Sx.ops.find? fun op => decide (Lx.mk (Sx.sign op) = s)
theorem opW_none {s : ByteArray} (h : ∀ k : Nat, 4 ≤ k → k < 16 → ¬ Lx.mk (Sx.sign k) = s) : opW s = none := by
  unfold opW
  rw [List.find?_eq_none]
  intro op hop
  simp only [Sx.ops, List.mem_cons, List.not_mem_nil, or_false] at hop
  have h4 : 4 ≤ op ∧ op ≤ 15 := by omega
  have := h op.toNat (by omega) (by omega)
  rw [show ((op.toNat : Nat) : Int) = op by omega] at this
  simpa using this
theorem opW_some {s : ByteArray} {k : Nat} (h4 : 4 ≤ k) (h15 : k ≤ 15) (h : Lx.mk (Sx.sign k) = s) : opW s = some (k : Int) := by
  unfold opW
  cases hf : Sx.ops.find? (fun op => decide (Lx.mk (Sx.sign op) = s)) with
  | none =>
    rw [List.find?_eq_none] at hf
    exact absurd (decide_eq_true h) (hf k (Sx.ops_cases (by omega) (by omega)))
  | some o =>
    have h1 := List.mem_of_find?_eq_some hf
    have h2 := List.find?_some hf
    rw [decide_eq_true_eq] at h2
    rw [Sx.sign_inj o h1 k (Sx.ops_cases (by omega) (by omega)) (Sx.mk_inj (h2.trans h.symm))]
end Go.Proofs.YtmkllibfblacfaaDoor

/-
  Layer 14: how deep an expression is, how many there are in it: the document's.
-/
namespace Go.Proofs.YtmkllibfblacfaaDoor
open Go.RowKit
open Sx (X)
namespace Sx
theorem deepL_app : ∀ (l : List X) (x : X), deepL (l ++ [x]) = max (deepL l) (deep x)
  | [], x => by rw [List.nil_append, deepL, deepL, deepL]; omega
  | y :: l, x => by rw [List.cons_append, deepL, deepL_app l x, deepL]; omega
theorem deepL_next {l : List X} {k : Nat} (h : k < l.length) : deepL (l.take (k + 1)) = max (deepL (l.take k)) (deep l[k]) := by
  rw [List.take_succ_eq_append_getElem h, deepL_app]
theorem deep_eq (x : X) : deep x = deepL x.l + 1 := by obtain ⟨_, _, _, _⟩ := x; rw [deep]; rfl
theorem sizeL_app : ∀ (l : List X) (x : X), sizeL (l ++ [x]) = sizeL l + size x
  | [], x => by simp [sizeL]
  | y :: l, x => by rw [List.cons_append, sizeL, sizeL_app l x, sizeL]; omega
theorem sizeL_next {l : List X} {k : Nat} (h : k < l.length) : sizeL (l.take (k + 1)) = sizeL (l.take k) + size l[k] := by
  rw [List.take_succ_eq_append_getElem h, sizeL_app]
theorem size_eq (x : X) : size x = 1 + sizeL x.l := by obtain ⟨_, _, _, _⟩ := x; rw [size]; rfl
mutual
theorem deep_size : ∀ x : X, deep x ≤ size x
  | .mk _ _ _ l => by rw [deep, size]; have := deepL_size l; omega
theorem deepL_size : ∀ l : List X, deepL l ≤ sizeL l
  | [] => Nat.le_refl _
  | x :: r => by rw [deepL, sizeL]; have := deep_size x; have := deepL_size r; omega
end
theorem deepL_take (l : List X) (k : Nat) : deepL (l.take k) ≤ deepL l := by
  induction l generalizing k with
  | nil => simp
  | cons x r ih =>
    cases k with
    | zero => exact Nat.zero_le _
    | succ k => rw [List.take_succ_cons, deepL, deepL]; have := ih k; omega
theorem sizeL_take (l : List X) (k : Nat) : sizeL (l.take k) ≤ sizeL l := by
  induction l generalizing k with
  | nil => simp
  | cons x r ih =>
    cases k with
    | zero => exact Nat.zero_le _
    | succ k => rw [List.take_succ_cons, sizeL, sizeL]; have := ih k; omega
theorem len_size : ∀ l : List X, l.length ≤ sizeL l
  | [] => Nat.le_refl _
  | x :: r => by
    have := len_size r
    have h := size_pos x
    rw [sizeL, List.length_cons]; omega
end Sx
theorem wrap_add (a b : Int) : IntKind.i64.wrap (IntKind.i64.wrap a + IntKind.i64.wrap b) = IntKind.i64.wrap (a + b) := by
  simp only [IntKind.wrap, IntKind.bits, IntKind.signed]
  simp
  repeat' split
  all_goals omega
/-- the six cells of a box, at every world behind it -/
theorem x_look {x : X} {a : Option Addr} {c : Nat} {w wr : World} (hb : Below (w.alloc (.cells (xC x a c) 35)).heap.size (w.alloc (.cells (xC x a c) 35)) wr) : Cells6 wr w.heap.size 0 x a c ∧ Below w.heap.size w wr :=
  ⟨x_cells (x_box hb).1, (x_box hb).2⟩
/-- few parts, and short texts -/
def Sx.smallB : Nat → X → Bool
  | 0, _ => false
  | d + 1, x => decide (x.s.size ≤ 300) && decide (x.v.s.size ≤ 300) && decide (x.l.length ≤ 5) && x.l.all (Sx.smallB d)
end Go.Proofs.YtmkllibfblacfaaDoor

/-
  Layer 12: which values are right, the program's answer and the document's.
-/
namespace Go.Proofs.YtmkllibfblacfaaDoor
open Go.RowKit
/-- a value as a value -/
abbrev valC (v : Vl.V) : Array Value := #[.int .i64 v.kind, .int .i64 v.n, .string v.s]
abbrev valV (v : Vl.V) : Value := .agg (valC v)
/-- the bytes ahead of pos may stand in a text -/
def PlainTo (s : ByteArray) (pos : Nat) : Prop := ∀ b ∈ s.data.toList.take pos, 32 ≤ b.toNat ∧ b.toNat ≤ 126
theorem plainTo_start (s : ByteArray) : PlainTo s 0 := by intro b hb; simp at hb
theorem plainTo_step {s : ByteArray} {pos : Nat} (h : PlainTo s pos) (hp : pos < s.size) (h1 : 32 ≤ (s[pos]).toNat) (h2 : (s[pos]).toNat ≤ 126) : PlainTo s (pos + 1) := by
  intro b hb
  have hl : pos < s.data.toList.length := by simpa using hp
  rw [List.take_add_one, List.getElem?_eq_getElem hl] at hb
  rcases List.mem_append.1 hb with hb | hb
  · exact h b hb
  · simp only [Option.toList_some, List.mem_singleton] at hb
    subst hb
    exact ⟨h1, h2⟩
theorem plainTo_all {s : ByteArray} {pos : Nat} (h : PlainTo s pos) (hp : ¬ pos < s.size) (h40 : s.size ≤ 40) : Vl.plain s := by
  refine ⟨h40, fun b hb => h b ?_⟩
  rw [List.take_of_length_le (by simp; omega)]
  exact hb
theorem plain_not {s : ByteArray} {pos : Nat} (hp : pos < s.size) (h : (s[pos]).toNat < 32 ∨ 126 < (s[pos]).toNat) : ¬ Vl.plain s := by
  intro hh
  have := hh.2 s[pos] (by
    have hl : pos < s.data.toList.length := by simpa using hp
    exact (List.getElem_mem hl : s.data.toList[pos] ∈ s.data.toList))
  omega
theorem below_iter {w : World} (s : ByteArray) (pos : Nat) : Below w.heap.size w (w.iter s pos) := (Below.refl w.heap.size w).alloc (Nat.le_refl _) _
set_option maxRecDepth 100000 in
set_option maxHeartbeats 1600000 in
theorem rightText_any (s : ByteArray) (w : World) :
    Calls Tryd.prog 31 #[.string s] w fun e w' => e = .returned (.bool (decide (Vl.plain s))) ∧ Below w.heap.size w w' := by
  have hbl : Hid (∀ pos, Below w.heap.size w (w.iter s pos)) := Lib.hid fun pos => below_iter s pos
  by_cases h40 : (s.size : Int) > 40
  · go_enter Tryd.func31, Tryd.ntmps31
    go_wp2_with fail
    go_ret
    exact ⟨ret_bool (decide_eq_false (fun hh : Vl.plain s => by have := hh.1; omega)).symm, Below.refl _ _⟩
  · go_enter Tryd.func31, Tryd.ntmps31
    go_wp2
    go_loopw [4] (fun _ w' => ∃ (pos : Nat), w' = w.iter s pos ∧ pos ≤ s.size ∧ Hid (PlainTo s pos)) (fun _ w' => s.size - w'.iterPos w.heap.size)
    case atStart => exact ⟨0, rfl, Nat.zero_le _, Lib.hid (plainTo_start s)⟩
    case round =>
      obtain ⟨pos, rfl, hle, hpl⟩ := hrel
      by_cases hp : pos < s.size
      · by_cases ha : (s[pos]).toNat < 128
        · have hnx : ∀ ty, (Instr.next (.pointer (some ⟨w.heap.size, 0, none⟩)) true ty).run Tryd.prog (w.iter s pos) = _ := fun ty => run_next_ascii w s pos ty hp ha
          by_cases h1 : ((s[pos]).toNat : Int) < 32
          · have hno := Lib.hid (plain_not hp (.inl (by omega)))
            go_wp2_with fail
            go_ret
            exact ⟨ret_bool (decide_eq_false hno.out).symm, hbl.out _⟩
          · by_cases h2 : ((s[pos]).toNat : Int) > 126
            · have hno := Lib.hid (plain_not hp (.inr (by omega)))
              go_wp2_with fail
              go_ret
              exact ⟨ret_bool (decide_eq_false hno.out).symm, hbl.out _⟩
            · go_wp2_with fail
              go_roundw
              case rel => exact ⟨pos + 1, rfl, by omega, Lib.hid (plainTo_step hpl.out hp (by omega) (by omega))⟩
              case measure => simp; omega
        · have hnx : ∀ ty, (Instr.next (.pointer (some ⟨w.heap.size, 0, none⟩)) true ty).run Tryd.prog (w.iter s pos) = _ := fun ty => run_next_any w s pos ty hp
          have hd := (decode_high s pos hp (by omega)).1
          have hno := Lib.hid (plain_not hp (.inr (by omega)))
          have h1 : ¬ ((Utf8.decode s pos).1 : Int) < 32 := by omega
          have h2 : ((Utf8.decode s pos).1 : Int) > 126 := by omega
          go_wp2_with fail
          go_ret
          exact ⟨ret_bool (decide_eq_false hno.out).symm, hbl.out _⟩
      · have hnx : ∀ ty, (Instr.next (.pointer (some ⟨w.heap.size, 0, none⟩)) true ty).run Tryd.prog (w.iter s pos) = _ := fun ty => run_next_end w s pos ty hp
        go_wp2_with fail
        go_ret
        exact ⟨ret_bool (decide_eq_true (plainTo_all hpl.out hp (by omega))).symm, hbl.out _⟩
/-! right -/
/-- what the box of a value leaves -/
theorem below_box {w w' : World} (o : Obj) (h : Below (w.alloc o).heap.size (w.alloc o) w') : Below w.heap.size w w' :=
  ((Below.refl w.heap.size w).alloc (Nat.le_refl _) o).trans (h.mono (by rw [show (w.alloc o).heap.size = w.heap.size + 1 from Array.size_push _]; omega))
theorem mt_iff (s : ByteArray) : s.toList = [] ↔ s = Vl.mt := by
  rw [ByteArray.toList_eq]
  constructor
  · intro h; apply Sl.ba_ext; rw [h]
  · rintro rfl; rfl
theorem isEmp {p : Prop} [Decidable p] {l : List UInt8} (h : p ↔ l = []) : l.isEmpty = decide p := by cases l <;> simp [h]
theorem not_right {k n : Int} {s : ByteArray} (h2 : k ≠ 2 ∨ n ≠ 0) (h0 : k ≠ 0 ∨ n ≠ 0) (h1 : k ≠ 1) (h3 : k ≠ 3 ∨ (n ≠ 0 ∧ n ≠ 1)) : ¬ Vl.right ⟨k, n, s⟩ := by
  intro h
  rcases h with ⟨h, h', _⟩ | ⟨h, _⟩ | ⟨h, h', _⟩ | ⟨h, h', _⟩
  · simp only at h h'; omega
  · simp only at h; omega
  · simp only at h h'; omega
  · simp only at h h'; rcases h' with h' | h' <;> omega
theorem right_mt {k n : Int} {s : ByteArray} (h : (k = 0 ∧ n = 0) ∨ k = 1 ∨ (k = 3 ∧ (n = 0 ∨ n = 1))) : Vl.right ⟨k, n, s⟩ ↔ s.toList = [] := by
  rw [mt_iff]
  constructor
  · intro hr
    rcases hr with ⟨_, _, e⟩ | ⟨_, e⟩ | ⟨h2, _⟩ | ⟨_, _, e⟩
    · exact e
    · exact e
    · simp only at h2; omega
    · exact e
  · intro e
    rcases h with ⟨h, h'⟩ | h | ⟨h, h'⟩
    · exact .inl ⟨h, h', e⟩
    · exact .inr (.inl ⟨h, e⟩)
    · exact .inr (.inr (.inr ⟨h, h', e⟩))
theorem right_txt {s : ByteArray} : Vl.right ⟨2, 0, s⟩ ↔ Vl.plain s := by
  constructor
  · intro h
    rcases h with ⟨h, _⟩ | ⟨h, _⟩ | ⟨_, _, e⟩ | ⟨h, _⟩
    · exact absurd h (by simp)
    · exact absurd h (by simp)
    · exact e
    · exact absurd h (by simp)
  · intro h; exact .inr (.inr (.inl ⟨rfl, rfl, h⟩))
set_option maxRecDepth 100000 in
set_option maxHeartbeats 3200000 in
theorem right12_any (v : Vl.V) (w : World) :
    Calls Tryd.prog 26 #[valV v] w fun e w' => e = .returned (.bool (decide (Vl.right v))) ∧ Below w.heap.size w w' := by
  obtain ⟨k, n, s⟩ := v
  have hb0 : Hid (Below w.heap.size w (w.alloc (.cells #[.int .i64 k, .int .i64 n, .string s] 29))) := Lib.hid ((Below.refl w.heap.size w).alloc (Nat.le_refl _) _)
  have hb1 : Hid (∀ w', Below (w.alloc (.cells #[.int .i64 k, .int .i64 n, .string s] 29)).heap.size (w.alloc (.cells #[.int .i64 k, .int .i64 n, .string s] 29)) w' → Below w.heap.size w w') := Lib.hid fun w' h => below_box _ h
  by_cases k2 : k = 2
  · subst k2
    by_cases n0 : n = 0
    · subst n0
      have R := Lib.hid (right_txt (s := s))
      go_enter Tryd.func26, Tryd.ntmps26
      go_wp2_with (go_at_call 31; refine (rightText_any _ _).mono ?_; rintro e w1 ⟨rfl, hb⟩; have H := Lib.hid hb; clear hb)
      go_ret
      exact ⟨ret_bool (decide_eq_decide.2 R.out.symm), hb1.out _ H.out⟩
    · have R := Lib.hid (not_right (k := 2) (n := n) (s := s) (.inr n0) (.inr n0) (by omega) (by omega))
      have t : (n == 0) = false := by simp; exact n0
      go_enter Tryd.func26, Tryd.ntmps26
      go_wp2_with fail
      go_ret
      exact ⟨ret_bool (decide_eq_false R.out).symm, hb0.out⟩
  · have t2 : (k == 2) = false := by simp; exact k2
    by_cases k0 : k = 0
    · subst k0
      by_cases n0 : n = 0
      · subst n0
        have R := Lib.hid (right_mt (k := 0) (n := 0) (s := s) (.inl ⟨rfl, rfl⟩))
        clear t2 k2
        go_enter Tryd.func26, Tryd.ntmps26
        go_wp2_with fail
        go_ret
        exact ⟨ret_bool (isEmp R.out), hb0.out⟩
      · have R := Lib.hid (not_right (k := 0) (n := n) (s := s) (.inr n0) (.inr n0) (by omega) (by omega))
        have t : (n == 0) = false := by simp; exact n0
        clear t2 k2
        go_enter Tryd.func26, Tryd.ntmps26
        go_wp2_with fail
        go_ret
        exact ⟨ret_bool (decide_eq_false R.out).symm, hb0.out⟩
    · have t0 : (k == 0) = false := by simp; exact k0
      by_cases k3 : k = 3
      · subst k3
        by_cases n0 : n < 0
        · have R := Lib.hid (not_right (k := 3) (n := n) (s := s) (by omega) (by omega) (by omega) (by omega))
          clear t2 k2 k0 t0
          go_enter Tryd.func26, Tryd.ntmps26
          go_wp2_with fail
          go_ret
          exact ⟨ret_bool (decide_eq_false R.out).symm, hb0.out⟩
        · by_cases n1 : n > 1
          · have R := Lib.hid (not_right (k := 3) (n := n) (s := s) (by omega) (by omega) (by omega) (by omega))
            clear t2 k2 k0 t0
            go_enter Tryd.func26, Tryd.ntmps26
            go_wp2_with fail
            go_ret
            exact ⟨ret_bool (decide_eq_false R.out).symm, hb0.out⟩
          · have R := Lib.hid (right_mt (k := 3) (n := n) (s := s) (.inr (.inr ⟨rfl, by omega⟩)))
            clear t2 k2 k0 t0
            go_enter Tryd.func26, Tryd.ntmps26
            go_wp2_with fail
            go_ret
            exact ⟨ret_bool (isEmp R.out), hb0.out⟩
      · have t3 : (k == 3) = false := by simp; exact k3
        by_cases k1 : k = 1
        · subst k1
          have R := Lib.hid (right_mt (k := 1) (n := n) (s := s) (.inr (.inl rfl)))
          clear t2 k2 k0 t0 k3 t3
          go_enter Tryd.func26, Tryd.ntmps26
          go_wp2_with fail
          go_ret
          exact ⟨ret_bool (isEmp R.out), hb0.out⟩
        · have t1 : (k == 1) = false := by simp; exact k1
          have R := Lib.hid (not_right (k := k) (n := n) (s := s) (.inl k2) (.inl k0) k1 (.inl k3))
          go_enter Tryd.func26, Tryd.ntmps26
          go_wp2_with fail
          go_ret
          exact ⟨ret_bool (decide_eq_false R.out).symm, hb0.out⟩
/-- Check -/
def checkE (v : Vl.V) : Int := if Vl.right v then 0 else 2
theorem checkE_ok {v : Vl.V} (h : Vl.right v) : checkE v = 0 := if_pos h
theorem checkE_bad {v : Vl.V} (h : ¬ Vl.right v) : checkE v = 2 := if_neg h
set_option maxRecDepth 100000 in
set_option maxHeartbeats 1600000 in
theorem check12_any (v : Vl.V) (w : World) :
    Calls Tryd.prog 20 #[valV v] w fun e w' => e = .returned (.int .i64 (checkE v)) ∧ Below w.heap.size w w' := by
  have hb1 : Hid (∀ w', Below (w.alloc (.cells (valC v) 29)).heap.size (w.alloc (.cells (valC v) 29)) w' → Below w.heap.size w w') := Lib.hid fun w' h => below_box _ h
  by_cases hr : Vl.right v
  · have E := Lib.hid (checkE_ok hr)
    have c := fun w => right12_any v w
    rw [decide_eq_true hr] at c
    clear hr
    go_enter Tryd.func20, Tryd.ntmps20
    go_wp2_with (go_at_call 26; refine (c _).mono ?_; rintro e w1 ⟨rfl, hb⟩; have H := Lib.hid hb; clear hb)
    go_ret
    exact ⟨ret_int E.out.symm, hb1.out _ H.out⟩
  · have E := Lib.hid (checkE_bad hr)
    have c := fun w => right12_any v w
    rw [decide_eq_false hr] at c
    clear hr
    go_enter Tryd.func20, Tryd.ntmps20
    go_wp2_with (go_at_call 26; refine (c _).mono ?_; rintro e w1 ⟨rfl, hb⟩; have H := Lib.hid hb; clear hb)
    go_ret
    exact ⟨ret_int E.out.symm, hb1.out _ H.out⟩
end Go.Proofs.YtmkllibfblacfaaDoor

/-
  Layer 14: two expressions compared, the document's.
-/
namespace Go.Proofs.YtmkllibfblacfaaDoor
open Go.RowKit
open Sx (X)
namespace Sx
mutual
def sameB : X → X → Bool
  | .mk o v s l, .mk o' v' s' l' => decide (o = o') && decide (v = v') && decide (s = s') && sameL l l'
def sameL : List X → List X → Bool
  | [], [] => true
  | x :: r, y :: r' => sameB x y && sameL r r'
  | [], _ :: _ => false
  | _ :: _, [] => false
end
mutual
theorem sameB_iff : ∀ x y : X, sameB x y = true ↔ x = y
  | .mk o v s l, .mk o' v' s' l' => by
    rw [sameB]
    simp only [Bool.and_eq_true, decide_eq_true_eq, X.mk.injEq]
    rw [sameL_iff l l', and_assoc, and_assoc]
theorem sameL_iff : ∀ l l' : List X, sameL l l' = true ↔ l = l'
  | [], [] => by simp [sameL]
  | x :: r, y :: r' => by rw [sameL, Bool.and_eq_true, sameB_iff x y, sameL_iff r r', List.cons.injEq]
  | [], _ :: _ => by simp [sameL]
  | _ :: _, [] => by simp [sameL]
end
theorem sameB_no {x y : X} (h : ¬ x = y) : sameB x y = false := by
  cases hh : sameB x y with
  | false => rfl
  | true => exact absurd ((sameB_iff x y).1 hh) h
theorem x_ext {x y : X} (h1 : x.op = y.op) (h2 : x.v = y.v) (h3 : x.s = y.s) (h4 : x.l = y.l) : x = y := by
  obtain ⟨_, _, _, _⟩ := x
  obtain ⟨_, _, _, _⟩ := y
  simp only [X.op, X.v, X.s, X.l] at h1 h2 h3 h4
  subst h1 h2 h3 h4; rfl
end Sx
theorem neq_val_same (a : Vl.V) (w : World) : (binOp BinOp.neq 29 (valV a) (valV a)).run Tryd.prog w = .ok (.bool false) w := by
  obtain ⟨k, n, s⟩ := a
  have hS : Tryd.prog.underlying 29 = some (.struct (Tryd.prog.fieldsOf 29)) := by kernel_rfl
  have hp : Tryd.prog.stoodInHeld 29 = false := by kernel_rfl
  rw [run_neq_struct, show (10000 : Nat) = 9999 + 1 from rfl, run_equalIn_agg w 9999 29 _ _ hS hp]
  have hU := Tryd.underlying29
  simp only [Program.fieldsOf, hU]
  go_simp
theorem neq_val_other {a b : Vl.V} (h : ¬ a = b) (w : World) : (binOp BinOp.neq 29 (valV a) (valV b)).run Tryd.prog w = .ok (.bool true) w := by
  obtain ⟨k, n, s⟩ := a
  obtain ⟨k2, n2, s2⟩ := b
  have hS : Tryd.prog.underlying 29 = some (.struct (Tryd.prog.fieldsOf 29)) := by kernel_rfl
  have hp : Tryd.prog.stoodInHeld 29 = false := by kernel_rfl
  rw [run_neq_struct, show (10000 : Nat) = 9999 + 1 from rfl, run_equalIn_agg w 9999 29 _ _ hS hp]
  have hU := Tryd.underlying29
  simp only [Program.fieldsOf, hU]
  go_simp
  by_cases h1 : k = k2
  · subst h1
    by_cases h2 : n = n2
    · subst h2
      have h3 : ¬ s.toList = s2.toList := fun e => h (Vl.v_ext rfl rfl (Sl.ba_ext (by rw [← ByteArray.toList_eq, ← ByteArray.toList_eq]; exact e)))
      simp [h3]
    · simp [h2]
  · simp [h1]
/-- two boxes, one behind the other -/
theorem x_two {x y : X} {a a' : Option Addr} {c c' : Nat} {w wr : World} (hb : Below ((w.alloc (.cells (xC x a c) 35)).alloc (.cells (xC y a' c') 35)).heap.size ((w.alloc (.cells (xC x a c) 35)).alloc (.cells (xC y a' c') 35)) wr) :
    Cells6 wr w.heap.size 0 x a c ∧ Cells6 wr (w.heap.size + 1) 0 y a' c' ∧ Below w.heap.size w wr := by
  obtain ⟨r1, b1, s1⟩ := x_new x a c w
  obtain ⟨r2, b2, s2⟩ := x_new y a' c' (w.alloc (.cells (xC x a c) 35))
  rw [s1] at r2 s2
  have h1 := rowV_below (rowV_alloc r1 (.cells (xC y a' c') 35)) hb (by rw [s2]; omega)
  have h2 := rowV_below r2 hb (by rw [s2]; omega)
  exact ⟨x_cells h1, x_cells h2, (b1.trans (b2.mono (by rw [s1]; omega))).trans (hb.mono (by rw [s2]; omega))⟩
end Go.Proofs.YtmkllibfblacfaaDoor

/-
  Layer 14's laws: which expressions are small.
-/
namespace Go.Proofs.YtmkllibfblacfaaDoor
open Go.RowKit
open Sx (X)
theorem Sx.smallB_succ (d : Nat) (x : X) : Sx.smallB (d + 1) x = (decide (x.s.size ≤ 300) && decide (x.v.s.size ≤ 300) && decide (x.l.length ≤ 5) && x.l.all (Sx.smallB d)) := rfl
theorem Sx.all_take {l : List X} {k : Nat} {p : X → Bool} (h : ∀ y ∈ l.take k, p y = true) (hk : k < l.length) (hp : p l[k] = true) : ∀ y ∈ l.take (k + 1), p y = true := by
  intro y hy
  rw [List.take_succ_eq_append_getElem hk, List.mem_append] at hy
  rcases hy with hy | hy
  · exact h y hy
  · simp at hy; subst hy; exact hp
theorem Sx.all_full {l : List X} {k : Nat} {p : X → Bool} (h : ∀ y ∈ l.take k, p y = true) (hk : ¬ k < l.length) : l.all p = true := by
  rw [List.take_of_length_le (by omega)] at h
  exact List.all_eq_true.2 h
theorem Sx.all_not {l : List X} {k : Nat} {p : X → Bool} (hk : k < l.length) (hp : p l[k] = false) : l.all p = false := by
  cases h : l.all p with
  | false => rfl
  | true => rw [List.all_eq_true.1 h _ (List.getElem_mem hk)] at hp; cases hp
end Go.Proofs.YtmkllibfblacfaaDoor

/-
  Layer 14: ops: what they are written as, their levels, how many they have: the document's.
-/
namespace Go.Proofs.YtmkllibfblacfaaDoor
open Go.RowKit
open Sx (X)
theorem Sx.lvl_out {op : Int} (h : ¬ (1 ≤ op ∧ op ≤ 15)) : Sx.lvl op = 0 := by
  unfold Sx.lvl
  rw [if_neg (by omega), if_neg (by omega), if_neg (by omega), if_neg (by omega), if_neg (by omega), if_neg (by omega), if_neg (by omega)]
theorem Sx.sign_out {op : Int} (h : ¬ (4 ≤ op ∧ op ≤ 15)) : Sx.sign op = [] := by
  unfold Sx.sign
  rw [if_neg (by omega), if_neg (by omega), if_neg (by omega), if_neg (by omega), if_neg (by omega), if_neg (by omega), if_neg (by omega), if_neg (by omega), if_neg (by omega), if_neg (by omega), if_neg (by omega), if_neg (by omega)]
theorem Sx.sign_ne {op : Int} (h : 4 ≤ op ∧ op ≤ 15) : ¬ (Lx.mk (Sx.sign op)).toList = [] := by
  rw [ByteArray.toList_eq]
  show ¬ Sx.sign op = []
  rcases Sx.op_facts h.1 h.2 with rfl | rfl | rfl | rfl | rfl | rfl | rfl | rfl | rfl | rfl | rfl | rfl <;> decide
end Go.Proofs.YtmkllibfblacfaaDoor

/-
  Layer 14: which expressions are right, the document's.
-/
namespace Go.Proofs.YtmkllibfblacfaaDoor
open Go.RowKit
open Sx (X)
theorem eql_val_same (a : Vl.V) (w : World) : (binOp BinOp.eql 29 (valV a) (valV a)).run Tryd.prog w = .ok (.bool true) w := by
  obtain ⟨k, n, s⟩ := a
  have hS : Tryd.prog.underlying 29 = some (.struct (Tryd.prog.fieldsOf 29)) := by kernel_rfl
  have hp : Tryd.prog.stoodInHeld 29 = false := by kernel_rfl
  rw [run_eql_struct, show (10000 : Nat) = 9999 + 1 from rfl, run_equalIn_agg w 9999 29 _ _ hS hp]
  have hU := Tryd.underlying29
  simp only [Program.fieldsOf, hU]
  go_simp
theorem eql_val_other {a b : Vl.V} (h : ¬ a = b) (w : World) : (binOp BinOp.eql 29 (valV a) (valV b)).run Tryd.prog w = .ok (.bool false) w := by
  obtain ⟨k, n, s⟩ := a
  obtain ⟨k2, n2, s2⟩ := b
  have hS : Tryd.prog.underlying 29 = some (.struct (Tryd.prog.fieldsOf 29)) := by kernel_rfl
  have hp : Tryd.prog.stoodInHeld 29 = false := by kernel_rfl
  rw [run_eql_struct, show (10000 : Nat) = 9999 + 1 from rfl, run_equalIn_agg w 9999 29 _ _ hS hp]
  have hU := Tryd.underlying29
  simp only [Program.fieldsOf, hU]
  go_simp
  by_cases h1 : k = k2
  · subst h1
    by_cases h2 : n = n2
    · subst h2
      have h3 : ¬ s.toList = s2.toList := fun e => h (Vl.v_ext rfl rfl (Sl.ba_ext (by rw [← ByteArray.toList_eq, ← ByteArray.toList_eq]; exact e)))
      simp [h3]
    · simp [h2]
  · simp [h1]
theorem eql_val (a b : Vl.V) (w : World) : (binOp BinOp.eql 29 (valV a) (valV b)).run Tryd.prog w = .ok (.bool (decide (a = b))) w := by
  by_cases h : a = b
  · subst h; rw [decide_eq_true rfl]; exact eql_val_same a w
  · rw [decide_eq_false h]; exact eql_val_other h w
theorem Sx.right_eq (x : X) : Sx.right x = (decide ((x.l.length : Int) = Sx.count x.op) && (if x.op = 1 then decide (x.s = Vl.mt) && decide (Vl.right x.v) && (decide (x.v.kind ≠ 1) || decide (0 ≤ x.v.n)) else if x.op = 2 then decide (x.v = Vl.no) && Lx.nameB x.s else Sx.rightL x.l && (decide (x.v = Vl.no) && decide (x.s = Vl.mt)))) := by
  obtain ⟨op, v, s, l⟩ := x
  rw [Sx.right]; rfl
theorem Sx.rightL_eq (l : List X) : Sx.rightL l = l.all Sx.right := by
  cases h : Sx.rightL l with
  | true => exact (List.all_eq_true.2 ((Sx.rightL_all l).1 h)).symm
  | false =>
    cases h2 : l.all Sx.right with
    | false => rfl
    | true => rw [(Sx.rightL_all l).2 (List.all_eq_true.1 h2)] at h; cases h
theorem mt_beq (s : ByteArray) : (s.toList == []) = decide (s = Vl.mt) := by
  by_cases h : s = Vl.mt
  · rw [decide_eq_true h, (mt_iff13 s).2 h]; rfl
  · rw [decide_eq_false h]
    have := fun e => h ((mt_iff13 s).1 e)
    simpa using this
end Go.Proofs.YtmkllibfblacfaaDoor

/-
  A list of strings that a call owns and appends to, told by its texts (over AppOne's OwL).
-/
namespace Go.Proofs.YtmkllibfblacfaaDoor
open Go.RowKit
abbrev cs1 (s : ByteArray) : List Value := [.string s]
theorem str_parts13 : (Tryd.prog.info? 9).map (fun i => (i.zero, i.size, i.bytes)) = some (some (.string ByteArray.empty), 1, 16) := by kernel_rfl
theorem str_elem : ElemOk Tryd.prog 9 1 16 := elemOk_of str_parts13 rfl (by decide) (by decide)
theorem cs1_one (s : ByteArray) : ∀ u ∈ cs1 s, u.oneCell' = true := by intro u hu; simp at hu; subst hu; rfl
theorem owL_readsS {w : World} {B : Nat} {ao : Option Addr} {cp k : Nat} {L : List ByteArray} (hk : L.length = k) (h : OwL cs1 9 1 w B (.slice ao k cp) L) : ReadsS w ao L ∧ L.length ≤ cp := by
  refine ⟨fun i hi => ?_, ?_⟩
  · obtain ⟨g, c, e, hc⟩ := owL_cell (f := cs1) (k := 1) (fun _ _ => rfl) h i hi
    cases e
    refine ⟨g, 0, rfl, ?_⟩
    have := (hc 0 _ rfl).1
    simpa using this
  · obtain ⟨a, c, e, h1, _⟩ := owL_form h
    cases e
    exact h1
theorem box_str {w wr : World} {B : Nat} {u : Value} {l : List ByteArray} (v : ByteArray) (h : OwL cs1 9 1 wr B u l) (hb : Below B w wr) (hB : B ≤ w.heap.size) :
    OwL cs1 9 1 (wr.alloc (.cells #[.string v] 9)) B u l ∧ Below B w (wr.alloc (.cells #[.string v] 9)) ∧ B ≤ (wr.alloc (.cells #[.string v] 9)).heap.size ∧ RowV (wr.alloc (.cells #[.string v] 9)) wr.heap.size 9 (cs1 v) := by
  have hs := hb.size
  have hz : (wr.alloc (.cells #[.string v] 9)).heap.size = wr.heap.size + 1 := World.size_alloc _ _
  exact ⟨owL_below h ((Below.refl _ _).alloc (Nat.le_refl _) _), hb.alloc (by omega) _, by omega, rowV_new _ _ _⟩
theorem app_str {w wr w5 : World} {B g n cap : Nat} {u : Value} {l l' : List ByteArray} (h5 : OwL cs1 9 1 w5 B (.slice (some ⟨g, 0, none⟩) n cap) l') (ho : Only (fun j => u.ownBlock = some j) wr w5) (h : OwL cs1 9 1 wr B u l) (hb : Below B w wr) (hB : B ≤ wr.heap.size) :
    OwL cs1 9 1 w5 B (.slice (some ⟨g, 0, none⟩) n cap) l' ∧ Below B w w5 :=
  ⟨h5, hb.trans (ho.below (fun j _ e => (owL_lt h j e).1) hB)⟩
end Go.Proofs.YtmkllibfblacfaaDoor

/-
  Layer 14: an expression's names, the document's.
-/
namespace Go.Proofs.YtmkllibfblacfaaDoor
open Go.RowKit
open Sx (X)
namespace Sx
theorem add1_len (o : List ByteArray) (m : ByteArray) : (add1 o m).length ≤ o.length + 1 := by
  by_cases h : m ∈ o
  · rw [add1_mem h]; omega
  · rw [add1_new h, List.length_append]; simp
theorem addN_len : ∀ (l o : List ByteArray), (addN o l).length ≤ o.length + l.length
  | [], o => Nat.le_refl _
  | m :: l, o => by
    have := addN_len l (add1 o m)
    have h := add1_len o m
    rw [addN_cons, List.length_cons]; omega
mutual
theorem names_len : ∀ x : X, (names x).length ≤ size x
  | .mk op v s l => by
    rw [names, size]
    refine Nat.le_trans (namesL_len l _) ?_
    split <;> simp
theorem namesL_len : ∀ (l : List X) (o : List ByteArray), (namesL l o).length ≤ o.length + sizeL l
  | [], o => Nat.le_refl _
  | x :: r, o => by
    rw [namesL, sizeL]
    have h1 := namesL_len r (addN o (names x))
    have h2 := addN_len (names x) o
    have h3 := names_len x
    omega
end
theorem namesL_app : ∀ (l : List X) (x : X) (o : List ByteArray), namesL (l ++ [x]) o = addN (namesL l o) (names x)
  | [], x, o => rfl
  | y :: l, x, o => by rw [List.cons_append, namesL, namesL_app l x, namesL]
theorem namesL_next {l : List X} {k : Nat} (o : List ByteArray) (h : k < l.length) : namesL (l.take (k + 1)) o = addN (namesL (l.take k) o) (names l[k]) := by
  rw [List.take_succ_eq_append_getElem h, namesL_app]
theorem sizeL_at : ∀ (l : List X) (i : Nat) (h : i < l.length), size l[i] ≤ sizeL l
  | [], i, h => absurd h (Nat.not_lt_zero _)
  | x :: r, 0, _ => by rw [sizeL]; exact Nat.le_add_right _ _
  | x :: r, i + 1, h => by
    have := sizeL_at r i (by simpa using h)
    rw [sizeL, List.getElem_cons_succ]; omega
theorem size_at {x : X} {i : Nat} (h : i < x.l.length) : size x.l[i] < size x := by
  have := sizeL_at x.l i h
  rw [size_eq x]; omega
def own (x : X) : List ByteArray := if x.op = 2 then [x.s] else []
theorem names_eq (x : X) : names x = namesL x.l (own x) := by obtain ⟨op, v, s, l⟩ := x; rw [names]; rfl
theorem own_len (x : X) : (own x).length ≤ 1 := by unfold own; split <;> simp
theorem addN_next {O M : List ByteArray} {j : Nat} (h : j < M.length) : addN O (M.take (j + 1)) = add1 (addN O (M.take j)) M[j] := by
  rw [List.take_succ_eq_append_getElem h, addN_app]; rfl
theorem memB_next {m : ByteArray} {O : List ByteArray} {k : Nat} (h : k < O.length) : memB m (O.take (k + 1)) = (memB m (O.take k) || decide (O[k] = m)) := by
  rw [List.take_succ_eq_append_getElem h]
  unfold memB
  rw [List.any_append]; simp
/-- the bound that all lists of names here keep -/
theorem part_len {x : X} {k j : Nat} (hk : k < x.l.length) : (addN (namesL (x.l.take k) (own x)) ((names x.l[k]).take j)).length ≤ size x := by
  have h1 := addN_len ((names x.l[k]).take j) (namesL (x.l.take k) (own x))
  have h2 := namesL_len (x.l.take k) (own x)
  have h3 := names_len x.l[k]
  have h4 := own_len x
  have h5 := sizeL_take x.l (k + 1)
  have h6 := sizeL_next hk
  have h7 := size_eq x
  rw [List.length_take] at h1
  omega
theorem part_len0 {x : X} {k : Nat} : (namesL (x.l.take k) (own x)).length ≤ size x := by
  have h2 := namesL_len (x.l.take k) (own x)
  have h4 := own_len x
  have h5 := sizeL_take x.l k
  have h7 := size_eq x
  omega
end Sx
/-- what is answered as names -/
def NamesPost (L : List ByteArray) (w : World) (e : Ending) (w' : World) : Prop := ∃ a cap, e = .returned (.slice a L.length cap) ∧ ReadsS w' a L ∧ L.length ≤ cap ∧ Below w.heap.size w w' ∧ ∀ p, a = some p → w.heap.size ≤ p.block
theorem own_block {E k B : Nat} {f : ByteArray → List Value} {w : World} {a : Option Addr} {n c : Nat} {l : List ByteArray} (h : OwL f E k w B (.slice a n c) l) : ∀ p, a = some p → B ≤ p.block ∧ (Value.slice a n c).ownBlock = some p.block := by
  intro p hp
  obtain ⟨a', c', e, _, _, h3, _⟩ := owL_form h
  cases e
  obtain ⟨g, rfl, h4, _, h5⟩ := h3 p hp
  exact ⟨h4, h5⟩
theorem own_block_some {a : Option Addr} {n c g : Nat} (h : (Value.slice a n c).ownBlock = some g) : ∃ p, a = some p ∧ p.block = g := by
  cases a with
  | none => cases h
  | some p => exact ⟨p, rfl, by simpa [Value.ownBlock] using h⟩
/-- the loops' lists: the one that grows, the one that comes in -/
structure NmAt (A : World) (ao : Option Addr) (n cp : Nat) (O : List ByteArray) (am : Option Addr) (M : List ByteArray) (wr : World) : Prop where
  out : OwL cs1 9 1 wr A.heap.size (.slice ao n cp) O
  more : ReadsS wr am M
  bel : Below A.heap.size A wr
  apart : ∀ p q, ao = some p → am = some q → p.block ≠ q.block
theorem nmAt_below {A : World} {ao : Option Addr} {n cp : Nat} {O : List ByteArray} {am : Option Addr} {M : List ByteArray} {wr wr' : World} (h : NmAt A ao n cp O am M wr) (hb : Below wr.heap.size wr wr') : NmAt A ao n cp O am M wr' :=
  ⟨owL_below h.out hb, readsS_below h.more hb, h.bel.trans (hb.mono h.bel.size), h.apart⟩
theorem app_nm {A ws w6 : World} {ao am : Option Addr} {n cp g cap : Nat} {O M : List ByteArray} {y : ByteArray} (h : NmAt A ao n cp O am M ws) (h1 : OwL cs1 9 1 w6 A.heap.size (.slice (some ⟨g, 0, none⟩) (n + 1) cap) (O ++ [y])) (h2 : Only (fun j => (Value.slice ao n cp).ownBlock = some j) ws w6) (h3 : (Value.slice ao n cp).ownBlock = some g ∨ g = ws.heap.size) (hA : A.heap.size ≤ ws.heap.size) (hM : M ≠ []) :
    NmAt A (some ⟨g, 0, none⟩) (n + 1) cap (O ++ [y]) am M w6 := by
  have hnb : ∀ q, am = some q → ¬ (Value.slice ao n cp).ownBlock = some q.block := fun q hq e => by
    obtain ⟨p, hp, hpq⟩ := own_block_some e
    exact h.apart p q hp hq hpq
  have hlt : ∀ q, am = some q → q.block < ws.heap.size := fun q hq => by
    obtain ⟨b, off, h4, h5⟩ := h.more 0 (List.length_pos_iff.2 hM)
    rw [hq] at h4
    cases h4
    exact World.block_lt_of_cell? ws _ h5
  refine ⟨h1, readsS_only h.more h2 hnb, h.bel.trans (h2.below (fun j _ e => (owL_lt h.out j e).1) hA), fun p q hp hq => ?_⟩
  cases hp
  rcases h3 with h3 | h3
  · intro e
    exact hnb q hq (by rw [h3]; exact congrArg some e)
  · have := hlt q hq
    show ¬ g = q.block
    omega
end Go.Proofs.YtmkllibfblacfaaDoor

/-
  Layer 12: a text's text: in quotes, the program's and the document's.
-/
namespace Go.Proofs.YtmkllibfblacfaaDoor
open Go.RowKit
theorem bldf_34 (B b : Nat) (l : List UInt8) (w : World) (h : BldF w B b l) (hlen : l.length + 1 ≤ 140737488355328) (hBw : B ≤ w.heap.size) :
    Calls Tryd.prog 55 #[.pointer (some ⟨b, 0, none⟩), .int .u8 34] w fun e w' => e = .returned .nilIface ∧ BldF w' B b (l ++ [34]) ∧ Below B w w' ∧ KeptF b w w' := bldf_byte B b l 34 w h hlen hBw
theorem bldf_92 (B b : Nat) (l : List UInt8) (w : World) (h : BldF w B b l) (hlen : l.length + 1 ≤ 140737488355328) (hBw : B ≤ w.heap.size) :
    Calls Tryd.prog 55 #[.pointer (some ⟨b, 0, none⟩), .int .u8 92] w fun e w' => e = .returned .nilIface ∧ BldF w' B b (l ++ [92]) ∧ Below B w w' ∧ KeptF b w w' := bldf_byte B b l 92 w h hlen hBw
/-- what stands in quotes ahead of pos -/
def quoTo (s : ByteArray) (pos : Nat) : List UInt8 := 34 :: Vl.esc (s.data.toList.take pos)
theorem quoTo_len (s : ByteArray) (pos : Nat) (h : s.size ≤ 40) : (quoTo s pos).length ≤ 81 := by
  have h1 := Vl.esc_len (s.data.toList.take pos)
  have h2 : (s.data.toList.take pos).length ≤ 40 := by rw [List.length_take]; simp; omega
  unfold quoTo; rw [List.length_cons]; omega
theorem quoTo_step (s : ByteArray) (pos : Nat) (h : pos < s.size) : quoTo s (pos + 1) = quoTo s pos ++ (if s[pos] = 34 ∨ s[pos] = 92 then [92, s[pos]] else [s[pos]]) := by
  have hl : pos < s.data.toList.length := by simpa using h
  unfold quoTo
  rw [List.take_add_one, List.getElem?_eq_getElem hl, Vl.esc_append]
  show 34 :: (Vl.esc _ ++ Vl.esc [s[pos]]) = _
  rw [Vl.esc, Vl.esc]
  rw [List.cons_append]
theorem quoTo_end (s : ByteArray) (pos : Nat) (h : ¬ pos < s.size) : quoTo s pos ++ [34] = Vl.quoteL s.data.toList := by
  unfold quoTo Vl.quoteL
  rw [List.take_of_length_le (by simp; omega), List.cons_append]
/-- the loop's state: the builder N, the iterator G -/
structure QuoAt (s : ByteArray) (w : World) (G pos : Nat) (wr : World) : Prop where
  bld : BldF wr w.heap.size w.heap.size (quoTo s pos)
  iter : wr.heap[G]? = some (.stringIter s pos)
  below : Below w.heap.size w wr
theorem quoAt_next {s : ByteArray} {w wr : World} {G pos : Nat} (h : QuoAt s w G pos wr) (hG : w.heap.size < G) (pos' : Nat) : BldF (wr.iterAt G s pos') w.heap.size w.heap.size (quoTo s pos) ∧ (wr.iterAt G s pos').heap[G]? = some (.stringIter s pos') ∧ Below w.heap.size w (wr.iterAt G s pos') :=
  ⟨Lib.IsBuilderF.iterAt h.bld h.iter pos', Lib.iterAt_heap wr G s pos pos' h.iter, Lib.below_iterAt h.below (Nat.le_of_lt hG) s pos'⟩
/-- what stands in quotes ahead of pos, as a string -/
def quoB (s : ByteArray) (pos : Nat) : ByteArray := ⟨(quoTo s pos).toArray⟩
theorem quoB_size (s : ByteArray) (pos : Nat) (h : s.size ≤ 40) : (quoB s pos).size ≤ 81 := by
  show (quoTo s pos).toArray.size ≤ 81
  rw [List.size_toArray]; exact quoTo_len s pos h
theorem quoB_start (s : ByteArray) : quoB s 0 = ⟨#[34]⟩ := by simp [quoB, quoTo, Vl.esc]
theorem cut_one (s : ByteArray) (k : Nat) (h : k < s.size) : (s.extract k (k + 1)).data.toList = [s[k]] := by
  have hl : k < s.data.toList.length := by simpa using h
  rw [Sl.ext_list, show k + 1 - k = 1 by omega, Oct.drop_at _ _ hl]; rfl
theorem quoB_plain (s : ByteArray) (k : Nat) (h : k < s.size) (hq : ¬ (s[k] = 34 ∨ s[k] = 92)) : quoB s k ++ s.extract k (k + 1) = quoB s (k + 1) := by
  apply Sl.ba_ext
  rw [ByteArray.data_append, Array.toList_append, cut_one s k h]
  show quoTo s k ++ [s[k]] = quoTo s (k + 1)
  rw [quoTo_step s k h, if_neg hq]
theorem quoB_esc (s : ByteArray) (k : Nat) (h : k < s.size) (hq : s[k] = 34 ∨ s[k] = 92) : quoB s k ++ ⟨#[92]⟩ ++ s.extract k (k + 1) = quoB s (k + 1) := by
  apply Sl.ba_ext
  rw [ByteArray.data_append, ByteArray.data_append, Array.toList_append, Array.toList_append, cut_one s k h]
  show quoTo s k ++ [92] ++ [s[k]] = quoTo s (k + 1)
  rw [quoTo_step s k h, if_pos hq, List.append_assoc]; rfl
theorem quoB_end (s : ByteArray) (k : Nat) (h : ¬ k < s.size) : quoB s k ++ ⟨#[34]⟩ = ⟨(Vl.quoteL s.data.toList).toArray⟩ := by
  apply Sl.ba_ext
  rw [ByteArray.data_append, Array.toList_append]
  exact quoTo_end s k h
end Go.Proofs.YtmkllibfblacfaaDoor

/-
  A region that draws its order, walked by what each operation leaves behind: whatever order is picked, a condition on the values that have come up so far and on the world is kept by each operation. For regions whose operations make and write memory (an append of an append ..), where the orders are too many to be walked one by one.
-/
namespace Go.Proofs.YtmkllibfblacfaaDoor
open Go.RowKit
section
variable {P : Program} {ops : Array Oper} {Q : Exit → Act → World → Prop}
/-- the values that have come up, one more -/
def came (st : Nat → Option Value) (i : Nat) (v : Value) : Nat → Option Value := fun j => if j = i then some v else st j
theorem came_at (st : Nat → Option Value) (i : Nat) (v : Value) : came st i v i = some v := if_pos rfl
theorem came_far {st : Nat → Option Value} {i j : Nat} {v : Value} (h : j ≠ i) : came st i v j = st j := if_neg h
/-- the frame a is a0, with the values st where the operations put them -/
structure FrameIs (ops : Array Oper) (a0 : Act) (st : Nat → Option Value) (a : Act) : Prop where
  defers : a.defers = a0.defers
  size : a.tmps.size = a0.tmps.size
  come : ∀ i o d v, ops[i]? = some o → o.dst = some d → st i = some v → a.tmps.getD d undef = v
  stay : ∀ d, (∀ i o, ops[i]? = some o → o.dst = some d → st i = none) → a.tmps.getD d undef = a0.tmps.getD d undef
/-- what is asked of the region's text (each by the kernel) -/
structure RelyOk (ops : Array Oper) (n : Nat) : Prop where
  bound : ∀ (i : Nat) (o : Oper) (d : Nat), ops[i]? = some o → o.dst = some d → d < n
  apart : ∀ (i j : Nat) (o p : Oper) (d : Nat), ops[i]? = some o → ops[j]? = some p → o.dst = some d → p.dst = some d → i = j
  after : ∀ (i : Nat) (o : Oper), ops[i]? = some o → ∀ e ∈ o.after, Region.binds .any e = true → e.on < i
/-- .. and that no operation hangs on another one's truth -/
def PlainOps (ops : Array Oper) : Prop := ∀ (i : Nat) (o : Oper), ops[i]? = some o → o.guard = none
def relyB (ops : Array Oper) (n : Nat) : Bool :=
  (List.range ops.size).all fun i => match ops[i]? with
    | none => true
    | some o => o.guard.isNone && o.after.all (fun e => !Region.binds .any e || decide (e.on < i)) && (match o.dst with
      | none => true
      | some d => decide (d < n) && (List.range ops.size).all fun j => match ops[j]? with
        | none => true
        | some p => p.dst != some d || decide (i = j))
theorem relyOk_of {ops : Array Oper} {n : Nat} (h : relyB ops n = true) : RelyOk ops n ∧ PlainOps ops := by
  unfold relyB at h
  rw [List.all_eq_true] at h
  have key : ∀ (i : Nat) (o : Oper), ops[i]? = some o → o.guard.isNone = true ∧ o.after.all (fun e => !Region.binds .any e || decide (e.on < i)) = true ∧ ∀ d, o.dst = some d → d < n ∧ ∀ (j : Nat) (p : Oper), ops[j]? = some p → p.dst = some d → i = j := by
    intro i o ho
    have hi : i < ops.size := (Array.getElem?_eq_some_iff.1 ho).1
    have h1 := h i (List.mem_range.2 hi)
    rw [ho] at h1
    simp only [Bool.and_eq_true] at h1
    refine ⟨h1.1.1, h1.1.2, fun d hd => ?_⟩
    have h2 := h1.2
    rw [hd] at h2
    simp only [Bool.and_eq_true, decide_eq_true_eq] at h2
    refine ⟨h2.1, fun j p hp hpd => ?_⟩
    have hj : j < ops.size := (Array.getElem?_eq_some_iff.1 hp).1
    have h3 := List.all_eq_true.1 h2.2 j (List.mem_range.2 hj)
    rw [hp] at h3
    simp only [hpd, bne_self_eq_false, Bool.false_or, decide_eq_true_eq] at h3
    exact h3
  refine ⟨⟨fun i o d ho hd => ((key i o ho).2.2 d hd).1, fun i j o p d ho hp hd hpd => ((key i o ho).2.2 d hd).2 j p hp hpd, fun i o ho e he hbe => ?_⟩, fun i o ho => ?_⟩
  · have := (key i o ho).2.1
    rw [Array.all_eq_true_iff_forall_mem] at this
    have h2 := this e he
    rw [hbe] at h2
    simpa using h2
  · simpa using (key i o ho).1
/-- the same, where operations may hang on others' truths -/
def relyGB (ops : Array Oper) (n : Nat) : Bool :=
  (List.range ops.size).all fun i => match ops[i]? with
    | none => true
    | some o => o.after.all (fun e => !Region.binds .any e || decide (e.on < i)) && (match o.dst with
      | none => true
      | some d => decide (d < n) && (List.range ops.size).all fun j => match ops[j]? with
        | none => true
        | some p => p.dst != some d || decide (i = j))
theorem relyOkG_of {ops : Array Oper} {n : Nat} (h : relyGB ops n = true) : RelyOk ops n := by
  unfold relyGB at h
  rw [List.all_eq_true] at h
  have key : ∀ (i : Nat) (o : Oper), ops[i]? = some o → o.after.all (fun e => !Region.binds .any e || decide (e.on < i)) = true ∧ ∀ d, o.dst = some d → d < n ∧ ∀ (j : Nat) (p : Oper), ops[j]? = some p → p.dst = some d → i = j := by
    intro i o ho
    have hi : i < ops.size := (Array.getElem?_eq_some_iff.1 ho).1
    have h1 := h i (List.mem_range.2 hi)
    rw [ho] at h1
    simp only [Bool.and_eq_true] at h1
    refine ⟨h1.1, fun d hd => ?_⟩
    have h2 := h1.2
    rw [hd] at h2
    simp only [Bool.and_eq_true, decide_eq_true_eq] at h2
    refine ⟨h2.1, fun j p hp hpd => ?_⟩
    have hj : j < ops.size := (Array.getElem?_eq_some_iff.1 hp).1
    have h3 := List.all_eq_true.1 h2.2 j (List.mem_range.2 hj)
    rw [hp] at h3
    simp only [hpd, bne_self_eq_false, Bool.false_or, decide_eq_true_eq] at h3
    exact h3
  refine ⟨fun i o d ho hd => ((key i o ho).2 d hd).1, fun i j o p d ho hp hd hpd => ((key i o ho).2 d hd).2 j p hp hpd, fun i o ho e he hbe => ?_⟩
  have := (key i o ho).1
  rw [Array.all_eq_true_iff_forall_mem] at this
  have h2 := this e he
  rw [hbe] at h2
  simpa using h2
theorem frame_put {a0 a : Act} {st : Nat → Option Value} {i : Nat} {o : Oper} {v : Value} (hok : RelyOk ops a0.tmps.size) (ho : ops[i]? = some o) (h : FrameIs ops a0 st a) : FrameIs ops a0 (came st i v) (a.put o.dst v) := by
  cases hd : o.dst with
  | none =>
    refine ⟨h.defers, h.size, fun j p d u hj hpd hu => ?_, fun d hn => ?_⟩
    · have hji : j ≠ i := fun e => by subst e; rw [ho] at hj; cases hj; rw [hd] at hpd; cases hpd
      rw [came_far hji] at hu
      exact h.come j p d u hj hpd hu
    · refine h.stay d fun j p hj hpd => ?_
      have hji : j ≠ i := fun e => by subst e; rw [ho] at hj; cases hj; rw [hd] at hpd; cases hpd
      have := hn j p hj hpd
      rwa [came_far hji] at this
  | some d0 =>
    have hlt := hok.bound i o d0 ho hd
    have hget : ∀ d, (a.tmps.setIfInBounds d0 v).getD d undef = if d0 = d then v else a.tmps.getD d undef := fun d => by
      rw [Array.getD_eq_getD_getElem?, Array.getD_eq_getD_getElem?, Array.getElem?_setIfInBounds]
      by_cases e : d0 = d
      · subst e
        rw [if_pos rfl, if_pos rfl, if_pos (by rw [h.size]; exact hlt)]; rfl
      · rw [if_neg e, if_neg e]
    refine ⟨h.defers, by show (a.tmps.setIfInBounds d0 v).size = _; rw [Array.size_setIfInBounds]; exact h.size, fun j p d u hj hpd hu => ?_, fun d hn => ?_⟩
    · show (a.tmps.setIfInBounds d0 v).getD d undef = u
      rw [hget]
      by_cases e : d0 = d
      · subst e
        have hij := hok.apart i j o p d0 ho hj hd hpd
        subst hij
        rw [came_at] at hu
        rw [if_pos rfl]; exact Option.some.inj hu
      · rw [if_neg e]
        have hji : j ≠ i := fun e2 => by subst e2; rw [ho] at hj; cases hj; rw [hd] at hpd; cases hpd; exact e rfl
        rw [came_far hji] at hu
        exact h.come j p d u hj hpd hu
    · show (a.tmps.setIfInBounds d0 v).getD d undef = _
      rw [hget]
      have e : d0 ≠ d := fun e => by subst e; have := hn i o ho hd; rw [came_at] at this; cases this
      rw [if_neg e]
      refine h.stay d fun j p hj hpd => ?_
      have hji : j ≠ i := fun e2 => by subst e2; rw [ho] at hj; cases hj; rw [hd] at hpd; cases hpd; exact e rfl
      have := hn j p hj hpd
      rwa [came_far hji] at this
theorem least_of {p : Nat → Prop} (h : ∃ i, p i) : ∃ i, p i ∧ ∀ j, j < i → ¬ p j := by
  obtain ⟨i, hi⟩ := h
  induction i using Nat.strongRecOn with
  | _ i ih =>
    by_cases hc : ∃ j, j < i ∧ p j
    · obtain ⟨j, hj, hp⟩ := hc
      exact ih j hj hp
    · exact ⟨i, hi, fun j hj hp => hc ⟨j, hj, hp⟩⟩
/-- a slot that no operation writes -/
theorem frame_stay {a0 a : Act} {st : Nat → Option Value} (h : FrameIs ops a0 st a) {d : Nat} (hd : (ops.all fun o => o.dst != some d) = true) : a.tmps.getD d undef = a0.tmps.getD d undef := by
  refine h.stay d fun i o ho hod => ?_
  rw [Array.all_eq_true_iff_forall_mem] at hd
  have := hd o (Array.mem_of_getElem? ho)
  rw [hod] at this
  simp at this
/-- the frame, written out -/
theorem frame_list {a : Act} {n : Nat} (h : a.tmps.size = n) : a = ⟨((List.range n).map fun i => a.tmps.getD i undef).toArray, a.defers⟩ := by
  obtain ⟨t, d⟩ := a
  have h : t.size = n := h
  congr 1
  apply Array.ext
  · simp [h]
  · intro i h1 h2
    simp only [List.getElem_toArray, List.getElem_map, List.getElem_range]
    rw [Array.getD_eq_getD_getElem?, Array.getElem?_eq_getElem h1]; rfl
/-- listed says which have come up -/
def Told (n : Nat) (st : Nat → Option Value) (listed : Array Bool) : Prop := listed.size = n ∧ ∀ i, i < n → listed[i]? = some (st i).isSome
def left (n : Nat) (st : Nat → Option Value) : Nat := (List.range n).countP fun i => (st i).isNone
theorem left_came {n : Nat} {st : Nat → Option Value} {i : Nat} {v : Value} (hi : i < n) (h : st i = none) : left n st = left n (came st i v) + 1 := by
  unfold left
  induction n with
  | zero => omega
  | succ n ih =>
    rw [List.range_succ, List.countP_append, List.countP_append]
    by_cases e : i = n
    · subst e
      have h1 : (List.range i).countP (fun j => (st j).isNone) = (List.range i).countP (fun j => (came st i v j).isNone) := by
        apply List.countP_congr
        intro j hj
        rw [came_far (by have := List.mem_range.1 hj; omega)]
      rw [h1]
      simp [came_at, h]
    · have := ih (by omega)
      rw [this]
      have h2 : came st i v n = st n := came_far (by omega)
      simp [h2]
      omega
theorem left_zero {n : Nat} {st : Nat → Option Value} (h : left n st = 0) : ∀ i, i < n → (st i).isSome = true := by
  intro i hi
  unfold left at h
  rw [List.countP_eq_zero] at h
  have := h i (List.mem_range.2 hi)
  cases hs : st i with
  | none => rw [hs] at this; simp at this
  | some v => rfl
/-- the step of one operation -/
def Steps (P : Program) (G : (Nat → Option Value) → World → Prop) (st : Nat → Option Value) (i : Nat) (o : Oper) (a : Act) (w : World) : Prop :=
  (∃ v w', (execOp a.eval o).run P w = .ok (.value v) w' ∧ G (came st i v) w') ∨ (∃ w', (execOp a.eval o).run P w = .ok .skip w' ∧ G (came st i undef) w')
theorem wpAny_rely {a0 : Act} {G : (Nat → Option Value) → World → Prop} (hok : RelyOk ops a0.tmps.size) (hpl : PlainOps ops)
    (hstep : ∀ st w i o a, ops[i]? = some o → st i = none → (∀ e ∈ o.after, Region.binds .any e = true → (st e.on).isSome = true) → G st w → FrameIs ops a0 st a → Steps P G st i o a w)
    (hend : ∀ st w a, (∀ i, i < ops.size → (st i).isSome = true) → G st w → FrameIs ops a0 st a → Q .normal a w) :
    ∀ fuel st listed a w, left ops.size st = fuel → Told ops.size st listed → G st w → FrameIs ops a0 st a → wpAny P .any ops Q fuel listed a w := by
  have hmem : ∀ st listed, Told ops.size st listed → ∀ i, i ∈ Region.ready .any ops listed → ∃ o, ops[i]? = some o ∧ i < ops.size ∧ st i = none ∧ ∀ e ∈ o.after, Region.binds .any e = true → (st e.on).isSome = true := by
    intro st listed ht i hi
    unfold Region.ready at hi
    rw [List.mem_filter, List.mem_range] at hi
    obtain ⟨hi1, hi2⟩ := hi
    rw [Bool.and_eq_true] at hi2
    obtain ⟨o, ho⟩ : ∃ o, ops[i]? = some o := ⟨_, Array.getElem?_eq_getElem hi1⟩
    refine ⟨o, ho, hi1, ?_, fun e he hb => ?_⟩
    · have h1 := hi2.1
      rw [Array.getD_eq_getD_getElem?, ht.2 i hi1] at h1
      cases hs : st i with
      | none => rfl
      | some v => rw [hs] at h1; simp at h1
    · have h2 := hi2.2
      rw [ho] at h2
      simp only [Option.map_some, Option.getD_some] at h2
      rw [Array.all_eq_true_iff_forall_mem] at h2
      have h3 := h2 e he
      rw [hb] at h3
      simp only [Bool.not_true, Bool.false_or] at h3
      have hlt : e.on < ops.size := Nat.lt_trans (hok.after i o ho e he hb) hi1
      rw [Array.getD_eq_getD_getElem?, ht.2 _ hlt] at h3
      exact h3
  intro fuel
  induction fuel with
  | zero =>
    intro st listed a w hl ht hg hf
    have hall := left_zero hl
    refine ⟨?_, hend st w a hall hg hf⟩
    cases hr : Region.ready .any ops listed with
    | nil => rfl
    | cons i r =>
      obtain ⟨o, _, hi, hn, _⟩ := hmem st listed ht i (by rw [hr]; exact List.mem_cons_self ..)
      have := hall i hi
      rw [hn] at this; cases this
  | succ fuel ih =>
    intro st listed a w hl ht hg hf
    refine ⟨fun h0 => ?_, fun i hi => ?_⟩
    · -- the first that has not come up is ready
      exfalso
      have hex : ∃ i, i < ops.size ∧ st i = none := by
        refine Classical.byContradiction fun hc => ?_
        have : left ops.size st = 0 := by
          unfold left
          rw [List.countP_eq_zero]
          intro i hi
          cases hs : st i with
          | none => exact absurd ⟨i, List.mem_range.1 hi, hs⟩ hc
          | some v => simp
        omega
      obtain ⟨i, ⟨hi, hn⟩, hmin⟩ := least_of hex
      obtain ⟨o, ho⟩ : ∃ o, ops[i]? = some o := ⟨_, Array.getElem?_eq_getElem hi⟩
      have : i ∈ Region.ready .any ops listed := by
        unfold Region.ready
        rw [List.mem_filter, List.mem_range]
        refine ⟨hi, ?_⟩
        rw [Bool.and_eq_true]
        refine ⟨by rw [Array.getD_eq_getD_getElem?, ht.2 i hi, hn]; rfl, ?_⟩
        rw [ho]
        simp only [Option.map_some, Option.getD_some]
        rw [Array.all_eq_true_iff_forall_mem]
        intro e he
        by_cases hbe : Region.binds .any e = true
        case neg => rw [Bool.not_eq_true] at hbe; rw [hbe]; rfl
        have hlt := hok.after i o ho e he hbe
        have hs : (st e.on).isSome = true := by
          cases hs : st e.on with
          | none => exact absurd ⟨Nat.lt_trans hlt hi, hs⟩ (hmin _ hlt)
          | some v => rfl
        rw [Array.getD_eq_getD_getElem?, ht.2 _ (Nat.lt_trans hlt hi), hs]
        simp
      rw [h0] at this
      cases this
    · obtain ⟨o, ho, hi1, hn, haft⟩ := hmem st listed ht i hi
      unfold wpOp
      rw [ho]
      have hw : Region.wanted o (yielded ops a.tmps) = true := by simp [Region.wanted, hpl i o ho]
      simp only [hw, if_true]
      have ht2 : ∀ v, Told ops.size (came st i v) (listed.setIfInBounds i true) := fun v => by
        refine ⟨by rw [Array.size_setIfInBounds]; exact ht.1, fun j hj => ?_⟩
        rw [Array.getElem?_setIfInBounds]
        by_cases e : i = j
        · subst e
          rw [if_pos rfl, if_pos (by rw [ht.1]; exact hi1), came_at]; rfl
        · rw [if_neg e, came_far (fun x => e x.symm)]
          exact ht.2 j hj
      have hl2 : ∀ v, left ops.size (came st i v) = fuel := fun v => by have := left_came (v := v) hi1 hn; omega
      left
      unfold Oper.wp
      rcases hstep st w i o a ho hn haft hg hf with ⟨v, w', hrun, hg'⟩ | ⟨w', hrun, hg'⟩
      · rw [hrun]
        exact ih _ _ _ _ (hl2 v) (ht2 v) hg' (frame_put hok ho hf)
      · rw [hrun]
        exact ih _ _ _ _ (hl2 undef) (ht2 undef) hg' (frame_put hok ho hf)
theorem wp_region_rely {id : Nat} {a0 : Act} {w : World} (G : (Nat → Option Value) → World → Prop) (hm : P.follows .mixedOrders = true) (hok : relyB ops a0.tmps.size = true) (h0 : G (fun _ => none) w.drew)
    (hstep : ∀ st w i o a, ops[i]? = some o → st i = none → (∀ e ∈ o.after, Region.binds .any e = true → (st e.on).isSome = true) → G st w → FrameIs ops a0 st a → Steps P G st i o a w)
    (hend : ∀ st w a, (∀ i, i < ops.size → (st i).isSome = true) → G st w → FrameIs ops a0 st a → Q .normal a w) : (Code.region id ops true).wp P Q a0 w := by
  refine wp_region_any hm ?_
  refine wpAny_rely (relyOk_of hok).1 (relyOk_of hok).2 hstep hend ops.size (fun _ => none) _ a0 w.drew ?_ ?_ h0 ?_
  · show (List.range ops.size).countP (fun _ => true) = ops.size
    rw [List.countP_true, List.length_range]
  · exact ⟨Array.size_replicate, fun i hi => by rw [Array.getElem?_replicate, if_pos hi]; rfl⟩
  · exact ⟨rfl, rfl, (fun _ _ _ _ _ _ h => by cases h), fun _ _ => rfl⟩
end
end Go.Proofs.YtmkllibfblacfaaDoor

/-
  As Rely, for a region that calls Go functions too; and the usual condition: each value as it is told, whatever is made behind.
-/
namespace Go.Proofs.YtmkllibfblacfaaDoor
open Go.RowKit
section
variable {P : Program} {ops : Array Oper} {Q : Exit → Act → World → Prop}
/-- the step of one operation, a call among them -/
def StepsC (P : Program) (G : (Nat → Option Value) → World → Prop) (st : Nat → Option Value) (i : Nat) (o : Oper) (a : Act) (w : World) : Prop :=
  (∃ v w', (execOp a.eval o).run P w = .ok (.value v) w' ∧ G (came st i v) w') ∨ (∃ w', (execOp a.eval o).run P w = .ok .skip w' ∧ G (came st i undef) w') ∨
    (∃ f args R, (execOp a.eval o).run P w = .ok (.enter f args) w ∧ Calls P f args w R ∧ ∀ e w', R e w' → ∃ v, e = .returned v ∧ G (came st i v) w')
theorem wpAny_relyC {a0 : Act} {G : (Nat → Option Value) → World → Prop} (hok : RelyOk ops a0.tmps.size)
    (hstep : ∀ st w i o a, ops[i]? = some o → st i = none → (∀ e ∈ o.after, Region.binds .any e = true → (st e.on).isSome = true) → G st w → FrameIs ops a0 st a → if Region.wanted o (yielded ops a.tmps) = true then StepsC P G st i o a w else G (came st i undef) w)
    (hend : ∀ st w a, (∀ i, i < ops.size → (st i).isSome = true) → G st w → FrameIs ops a0 st a → Q .normal a w) :
    ∀ fuel st listed a w, left ops.size st = fuel → Told ops.size st listed → G st w → FrameIs ops a0 st a → wpAny P .any ops Q fuel listed a w := by
  have hmem : ∀ st listed, Told ops.size st listed → ∀ i, i ∈ Region.ready .any ops listed → ∃ o, ops[i]? = some o ∧ i < ops.size ∧ st i = none ∧ ∀ e ∈ o.after, Region.binds .any e = true → (st e.on).isSome = true := by
    intro st listed ht i hi
    unfold Region.ready at hi
    rw [List.mem_filter, List.mem_range] at hi
    obtain ⟨hi1, hi2⟩ := hi
    rw [Bool.and_eq_true] at hi2
    obtain ⟨o, ho⟩ : ∃ o, ops[i]? = some o := ⟨_, Array.getElem?_eq_getElem hi1⟩
    refine ⟨o, ho, hi1, ?_, fun e he hb => ?_⟩
    · have h1 := hi2.1
      rw [Array.getD_eq_getD_getElem?, ht.2 i hi1] at h1
      cases hs : st i with
      | none => rfl
      | some v => rw [hs] at h1; simp at h1
    · have h2 := hi2.2
      rw [ho] at h2
      simp only [Option.map_some, Option.getD_some] at h2
      rw [Array.all_eq_true_iff_forall_mem] at h2
      have h3 := h2 e he
      rw [hb] at h3
      simp only [Bool.not_true, Bool.false_or] at h3
      have hlt : e.on < ops.size := Nat.lt_trans (hok.after i o ho e he hb) hi1
      rw [Array.getD_eq_getD_getElem?, ht.2 _ hlt] at h3
      exact h3
  intro fuel
  induction fuel with
  | zero =>
    intro st listed a w hl ht hg hf
    have hall := left_zero hl
    refine ⟨?_, hend st w a hall hg hf⟩
    cases hr : Region.ready .any ops listed with
    | nil => rfl
    | cons i r =>
      obtain ⟨o, _, hi, hn, _⟩ := hmem st listed ht i (by rw [hr]; exact List.mem_cons_self ..)
      have := hall i hi
      rw [hn] at this; cases this
  | succ fuel ih =>
    intro st listed a w hl ht hg hf
    refine ⟨fun h0 => ?_, fun i hi => ?_⟩
    · -- the first that has not come up is ready
      exfalso
      have hex : ∃ i, i < ops.size ∧ st i = none := by
        refine Classical.byContradiction fun hc => ?_
        have : left ops.size st = 0 := by
          unfold left
          rw [List.countP_eq_zero]
          intro i hi
          cases hs : st i with
          | none => exact absurd ⟨i, List.mem_range.1 hi, hs⟩ hc
          | some v => simp
        omega
      obtain ⟨i, ⟨hi, hn⟩, hmin⟩ := least_of hex
      obtain ⟨o, ho⟩ : ∃ o, ops[i]? = some o := ⟨_, Array.getElem?_eq_getElem hi⟩
      have : i ∈ Region.ready .any ops listed := by
        unfold Region.ready
        rw [List.mem_filter, List.mem_range]
        refine ⟨hi, ?_⟩
        rw [Bool.and_eq_true]
        refine ⟨by rw [Array.getD_eq_getD_getElem?, ht.2 i hi, hn]; rfl, ?_⟩
        rw [ho]
        simp only [Option.map_some, Option.getD_some]
        rw [Array.all_eq_true_iff_forall_mem]
        intro e he
        by_cases hbe : Region.binds .any e = true
        case neg => rw [Bool.not_eq_true] at hbe; rw [hbe]; rfl
        have hlt := hok.after i o ho e he hbe
        have hs : (st e.on).isSome = true := by
          cases hs : st e.on with
          | none => exact absurd ⟨Nat.lt_trans hlt hi, hs⟩ (hmin _ hlt)
          | some v => rfl
        rw [Array.getD_eq_getD_getElem?, ht.2 _ (Nat.lt_trans hlt hi), hs]
        simp
      rw [h0] at this
      cases this
    · obtain ⟨o, ho, hi1, hn, haft⟩ := hmem st listed ht i hi
      unfold wpOp
      rw [ho]
      have ht2 : ∀ v, Told ops.size (came st i v) (listed.setIfInBounds i true) := fun v => by
        refine ⟨by rw [Array.size_setIfInBounds]; exact ht.1, fun j hj => ?_⟩
        rw [Array.getElem?_setIfInBounds]
        by_cases e : i = j
        · subst e
          rw [if_pos rfl, if_pos (by rw [ht.1]; exact hi1), came_at]; rfl
        · rw [if_neg e, came_far (fun x => e x.symm)]
          exact ht.2 j hj
      have hl2 : ∀ v, left ops.size (came st i v) = fuel := fun v => by have := left_came (v := v) hi1 hn; omega
      have hst := hstep st w i o a ho hn haft hg hf
      by_cases hwf : Region.wanted o (yielded ops a.tmps) = false
      · rw [if_neg (by rw [hwf]; exact Bool.false_ne_true)] at hst
        simp only [hwf]
        exact ih _ _ _ _ (hl2 undef) (ht2 undef) hst (frame_put hok ho hf)
      have hw : Region.wanted o (yielded ops a.tmps) = true := by cases h : Region.wanted o (yielded ops a.tmps) <;> simp_all
      rw [if_pos hw] at hst
      simp only [hw, if_true]
      left
      unfold Oper.wp
      rcases hst with ⟨v, w', hrun, hg'⟩ | ⟨w', hrun, hg'⟩ | ⟨f, args, R, hrun, hc, hR⟩
      · rw [hrun]
        exact ih _ _ _ _ (hl2 v) (ht2 v) hg' (frame_put hok ho hf)
      · rw [hrun]
        exact ih _ _ _ _ (hl2 undef) (ht2 undef) hg' (frame_put hok ho hf)
      · rw [hrun, Oper.upon_enter]
        refine hc.mono fun e w' he => ?_
        obtain ⟨v, rfl, hg'⟩ := hR e w' he
        exact ih _ _ _ _ (hl2 v) (ht2 v) hg' (frame_put hok ho hf)
theorem wp_region_relyG {id : Nat} {a0 : Act} {w : World} (G : (Nat → Option Value) → World → Prop) (hm : P.follows .mixedOrders = true) (hok : relyGB ops a0.tmps.size = true) (h0 : G (fun _ => none) w.drew)
    (hstep : ∀ st w i o a, ops[i]? = some o → st i = none → (∀ e ∈ o.after, Region.binds .any e = true → (st e.on).isSome = true) → G st w → FrameIs ops a0 st a → if Region.wanted o (yielded ops a.tmps) = true then StepsC P G st i o a w else G (came st i undef) w)
    (hend : ∀ st w a, (∀ i, i < ops.size → (st i).isSome = true) → G st w → FrameIs ops a0 st a → Q .normal a w) : (Code.region id ops true).wp P Q a0 w := by
  refine wp_region_any hm ?_
  refine wpAny_relyC (relyOkG_of hok) hstep hend ops.size (fun _ => none) _ a0 w.drew ?_ ?_ h0 ?_
  · show (List.range ops.size).countP (fun _ => true) = ops.size
    rw [List.countP_true, List.length_range]
  · exact ⟨Array.size_replicate, fun i hi => by rw [Array.getElem?_replicate, if_pos hi]; rfl⟩
  · exact ⟨rfl, rfl, (fun _ _ _ _ _ _ h => by cases h), fun _ _ => rfl⟩
theorem wp_region_relyC {id : Nat} {a0 : Act} {w : World} (G : (Nat → Option Value) → World → Prop) (hm : P.follows .mixedOrders = true) (hok : relyB ops a0.tmps.size = true) (h0 : G (fun _ => none) w.drew)
    (hstep : ∀ st w i o a, ops[i]? = some o → st i = none → (∀ e ∈ o.after, Region.binds .any e = true → (st e.on).isSome = true) → G st w → FrameIs ops a0 st a → StepsC P G st i o a w)
    (hend : ∀ st w a, (∀ i, i < ops.size → (st i).isSome = true) → G st w → FrameIs ops a0 st a → Q .normal a w) : (Code.region id ops true).wp P Q a0 w := by
  refine wp_region_any hm ?_
  refine wpAny_relyC (relyOk_of hok).1 (fun st w i o a ho hn haft hg hf => by
    have hw : Region.wanted o (yielded ops a.tmps) = true := by simp [Region.wanted, (relyOk_of hok).2 i o ho]
    rw [if_pos hw]
    exact hstep st w i o a ho hn haft hg hf) hend ops.size (fun _ => none) _ a0 w.drew ?_ ?_ h0 ?_
  · show (List.range ops.size).countP (fun _ => true) = ops.size
    rw [List.countP_true, List.length_range]
  · exact ⟨Array.size_replicate, fun i hi => by rw [Array.getElem?_replicate, if_pos hi]; rfl⟩
  · exact ⟨rfl, rfl, (fun _ _ _ _ _ _ h => by cases h), fun _ _ => rfl⟩
end
/-- each value as F tells, and nothing below w0's end was turned -/
def Gr (w0 : World) (F : Nat → Value → World → Prop) (st : Nat → Option Value) (w : World) : Prop := Below w0.heap.size w0 w ∧ ∀ j v, st j = some v → F j v w
theorem gr_pure {w0 w : World} {F : Nat → Value → World → Prop} {st : Nat → Option Value} {i : Nat} {v : Value} (h : Gr w0 F st w) (hv : F i v w) : Gr w0 F (came st i v) w := by
  refine ⟨h.1, fun j u hj => ?_⟩
  by_cases e : j = i
  · subst e; rw [came_at] at hj; cases hj; exact hv
  · rw [came_far e] at hj; exact h.2 j u hj
theorem gr_more {w0 w w' : World} {F : Nat → Value → World → Prop} {st : Nat → Option Value} {i : Nat} {v : Value} (hF : ∀ j u wx wy, Below wx.heap.size wx wy → F j u wx → F j u wy) (h : Gr w0 F st w) (hb : Below w.heap.size w w') (hv : F i v w') : Gr w0 F (came st i v) w' := by
  refine ⟨h.1.trans (hb.mono h.1.size), fun j u hj => ?_⟩
  by_cases e : j = i
  · subst e; rw [came_at] at hj; cases hj; exact hv
  · rw [came_far e] at hj; exact hF _ _ _ _ hb (h.2 j u hj)
end Go.Proofs.YtmkllibfblacfaaDoor

/-
  Layer 12: a number's digits, as the document says them.
-/
namespace Go.Proofs.YtmkllibfblacfaaDoor
open Go.RowKit
theorem Vl.itoa_step (n : Int) (h : ¬ (-9 ≤ n ∧ n ≤ 9)) : Lib.itoa n = Lib.itoa (n.tdiv 10) ++ [UInt8.ofNat (48 + (n.natAbs % 10))] ∧ (n.tdiv 10).natAbs < n.natAbs := by
  have key : ∀ u : Nat, 10 ≤ u → Lib.decDigits u = Lib.decDigits (u / 10) ++ [UInt8.ofNat (48 + u % 10)] := fun u hu => by
    rw [Lib.decDigits, dif_neg (by omega)]
  have hd : (n.tdiv 10).natAbs = n.natAbs / 10 := by rw [Int.natAbs_tdiv]; rfl
  refine ⟨?_, by omega⟩
  unfold Lib.itoa
  by_cases h0 : n < 0
  · have h1 : n.tdiv 10 < 0 := by
      have : n.tdiv 10 = -((-n).tdiv 10) := by rw [Int.neg_tdiv, Int.neg_neg]
      rw [this, Int.tdiv_eq_ediv_of_nonneg (by omega)]; omega
    rw [if_pos h0, if_pos h1, hd, key _ (by omega)]; rfl
  · have h1 : ¬ n.tdiv 10 < 0 := by rw [Int.tdiv_eq_ediv_of_nonneg (by omega)]; omega
    have e1 : (n.tdiv 10).toNat = n.toNat / 10 := by rw [Int.tdiv_eq_ediv_of_nonneg (by omega)]; omega
    have e2 : n.natAbs = n.toNat := by omega
    rw [if_neg h0, if_neg h1, e1, e2, key _ (by omega)]
theorem Vl.itoa_neg1 (n : Int) (h : -9 ≤ n ∧ n < 0) : Lib.itoa n = [45, UInt8.ofNat (48 - n).toNat] := by
  unfold Lib.itoa
  rw [if_pos h.2, Lib.decDigits, dif_pos (by omega), show 48 + n.natAbs = (48 - n).toNat by omega]
theorem Vl.itoa_pos1 (n : Int) (h : 0 ≤ n ∧ n ≤ 9) : Lib.itoa n = [UInt8.ofNat (48 + n).toNat] := by
  unfold Lib.itoa
  rw [if_neg (by omega), Lib.decDigits, dif_pos (by omega), show 48 + n.toNat = (48 + n).toNat by omega]
/-- one byte, as a string -/
theorem one_conv (c : Int) (W : World) (g : Nat) (h : W.cell? ⟨g, 0, none⟩ = some (.int .u8 c)) :
    (convert 99 9 (.slice (some ⟨g, 0, none⟩) 1 1)).run Tryd.prog W = .ok (.string ⟨#[UInt8.ofNat c.toNat]⟩) W := by
  have hc := run_convert_bytes_arg (P := Tryd.prog) W 99 5 Tryd.underlying99 Tryd.underlying5 g 0 1 1 [c] rfl (fun i hi => by
    obtain rfl : i = 0 := by omega
    exact h) 9 Tryd.underlying9
  rw [hc]; rfl
/-- the values of the last region -/
def digF (n : Int) (A B : ByteArray) (d : Nat) : Nat → Value → World → Prop
  | 0, v, _ => v = .int .i64 n
  | 1, v, _ => v = .int .i64 (n.tdiv 10)
  | 2, v, _ => v = .string A
  | 3, v, _ => v = .int .i64 (d : Int)
  | 4, v, _ => v = .int .i64 (48 + (d : Int))
  | 5, v, _ => v = .int .u8 (48 + (d : Int))
  | 6, v, w => ∃ g, v = .slice (some ⟨g, 0, none⟩) 1 1 ∧ w.cell? ⟨g, 0, none⟩ = some (.int .u8 (48 + (d : Int)))
  | 7, v, _ => v = .string B
  | 8, v, _ => v = .string (A ++ B)
  | 9, v, _ => v = .string (A ++ B)
  | _, _, _ => True
theorem digF_up (n : Int) (A B : ByteArray) (d : Nat) : ∀ j u wx wy, Below wx.heap.size wx wy → digF n A B d j u wx → digF n A B d j u wy := by
  intro j u wx wy hb h
  match j, h with
  | 6, ⟨g, h1, h2⟩ => exact ⟨g, h1, (hb.cell (World.block_lt_of_cell? _ _ h2)).trans h2⟩
  | 0, h | 1, h | 2, h | 3, h | 4, h | 5, h | 7, h | 8, h | 9, h => exact h
  | _ + 10, _ => trivial
end Go.Proofs.YtmkllibfblacfaaDoor

/-
  strings.Compare, cmp.Compare of integers, strconv.FormatBool: what they answer.
-/
namespace Go.Proofs.YtmkllibfblacfaaDoor
open Go.RowKit
theorem cmpstring_enters (a b : ByteArray) (w : World) : (callFunc 79 #[.string a, .string b]).run Tryd.prog w = .ok (.value (.int .i64 (Lib.compareBytes a.data.toList b.data.toList))) w := by
  rw [run_callFunc_extern Tryd.func79 (by kernel_rfl) (by kernel_rfl) (by kernel_rfl) (by kernel_rfl), Lib.run_compareString]
  rfl
set_option maxRecDepth 100000 in
theorem scompare_any (a b : ByteArray) (w : World) : Calls Tryd.prog 65 #[.string a, .string b] w fun e w' => e = .returned (.int .i64 (Lib.compareBytes a.data.toList b.data.toList)) ∧ w' = w := by
  have h := fun w => cmpstring_enters a b w
  generalize Lib.compareBytes a.data.toList b.data.toList = C at *
  have c1 : ∀ w, Calls Tryd.prog 72 #[.string a, .string b] w fun e w' => e = .returned (.int .i64 C) ∧ w' = w := by
    intro w
    go_enter Tryd.func72, Tryd.ntmps72
    go_wp2_with fail
    go_ret
    exact ⟨rfl, rfl⟩
  clear h
  have HC := Lib.hid c1
  clear c1
  go_enter Tryd.func65, Tryd.ntmps65
  go_wp2_with fail
  refine (HC.out _).mono ?_
  rintro e w1 ⟨rfl, hw⟩
  obtain rfl := hw.symm; clear hw
  go_wp2_with fail
  go_ret
  exact ⟨rfl, rfl⟩
set_option maxRecDepth 100000 in
theorem icompare_any (a b : Int) (w : World) : Calls Tryd.prog 64 #[.int .i64 a, .int .i64 b] w fun e w' => e = .returned (.int .i64 (Vl.cmpI a b)) ∧ w' = w := by
  have na : (a == a) = true := by simp
  have nb : (b == b) = true := by simp
  have n1 : ∀ (x : Int) (w : World), Calls Tryd.prog 71 #[.int .i64 x] w fun e w' => e = .returned (.bool false) ∧ w' = w := by
    intro x w
    go_enter Tryd.func71, Tryd.ntmps71
    go_wp2_with fail
    go_ret
    exact ⟨by simp, rfl⟩
  rcases Vl.cmpI_cases a b with ⟨h, e⟩ | ⟨h, e⟩ | ⟨h, e⟩
  · have E := Lib.hid e; clear e
    go_enter Tryd.func64, Tryd.ntmps64
    go_wp2_with (go_at_call 71; refine (n1 _ _).mono ?_; rintro e w1 ⟨rfl, rfl⟩)
    go_ret
    exact ⟨ret_int E.out.symm, rfl⟩
  · have E := Lib.hid e; clear e
    subst h
    go_enter Tryd.func64, Tryd.ntmps64
    go_wp2_with (go_at_call 71; refine (n1 _ _).mono ?_; rintro e w1 ⟨rfl, rfl⟩)
    go_ret
    exact ⟨ret_int E.out.symm, rfl⟩
  · have E := Lib.hid e; clear e
    have h' : ¬ a < b := by omega
    go_enter Tryd.func64, Tryd.ntmps64
    go_wp2_with (go_at_call 71; refine (n1 _ _).mono ?_; rintro e w1 ⟨rfl, rfl⟩)
    go_ret
    exact ⟨ret_int E.out.symm, rfl⟩
set_option maxRecDepth 100000 in
theorem kcompare_any (a b : Int) (w : World) : Calls Tryd.prog 63 #[.int .i64 a, .int .i64 b] w fun e w' => e = .returned (.int .i64 (Vl.cmpI a b)) ∧ w' = w := by
  have n1 : ∀ (x : Int) (w : World), Calls Tryd.prog 70 #[.int .i64 x] w fun e w' => e = .returned (.bool false) ∧ w' = w := by
    intro x w
    go_enter Tryd.func70, Tryd.ntmps70
    go_wp2_with fail
    go_ret
    exact ⟨by simp, rfl⟩
  rcases Vl.cmpI_cases a b with ⟨h, e⟩ | ⟨h, e⟩ | ⟨h, e⟩
  · have E := Lib.hid e; clear e
    go_enter Tryd.func63, Tryd.ntmps63
    go_wp2_with (go_at_call 70; refine (n1 _ _).mono ?_; rintro e w1 ⟨rfl, rfl⟩)
    go_ret
    exact ⟨ret_int E.out.symm, rfl⟩
  · have E := Lib.hid e; clear e
    subst h
    go_enter Tryd.func63, Tryd.ntmps63
    go_wp2_with (go_at_call 70; refine (n1 _ _).mono ?_; rintro e w1 ⟨rfl, rfl⟩)
    go_ret
    exact ⟨ret_int E.out.symm, rfl⟩
  · have E := Lib.hid e; clear e
    have h' : ¬ a < b := by omega
    go_enter Tryd.func63, Tryd.ntmps63
    go_wp2_with (go_at_call 70; refine (n1 _ _).mono ?_; rintro e w1 ⟨rfl, rfl⟩)
    go_ret
    exact ⟨ret_int E.out.symm, rfl⟩
end Go.Proofs.YtmkllibfblacfaaDoor

/-
  strconv.Itoa: the library's contract at this program's own numbers (every int; it reads the table of powers of ten).
-/
namespace Go.Proofs
open Go.Shelf
def Tryd.ita_ren : Go.Shelf.Ren := ⟨fun | 129 => 93 | 171 => 83 | 243 => 86 | 246 => 87 | 283 => 88 | 284 => 89 | 285 => 90 | 286 => 91 | 317 => 92 | 318 => 94 | 319 => 95 | 320 => 96 | 337 => 97 | 338 => 98 | n => n, fun | 0 => 0 | 2 => 2 | 3 => 3 | 4 => 4 | 5 => 5 | 9 => 9 | 20 => 20 | 37 => 99 | 46 => 130 | 51 => 149 | 53 => 127 | 171 => 141 | 173 => 144 | 212 => 148 | 213 => 150 | 232 => 153 | 233 => 154 | n => n, fun | 17 => 3 | 18 => 4 | 19 => 5 | n => n⟩
theorem Tryd.ita171 : Go.Proofs.LaysM.n171 Tryd.prog Tryd.ita_ren := {
  mixed := by kernel_rfl
  f129 := Tryd.func93.trans (congrArg some (by kernel_rfl))
  f171 := Tryd.func83.trans (congrArg some (by kernel_rfl))
  f243 := Tryd.func86.trans (congrArg some (by kernel_rfl))
  f246 := Tryd.func87.trans (congrArg some (by kernel_rfl))
  f283 := Tryd.func88.trans (congrArg some (by kernel_rfl))
  f284 := Tryd.func89.trans (congrArg some (by kernel_rfl))
  f285 := Tryd.func90.trans (congrArg some (by kernel_rfl))
  f286 := Tryd.func91.trans (congrArg some (by kernel_rfl))
  f317 := Tryd.func92.trans (congrArg some (by kernel_rfl))
  f318 := Tryd.func94.trans (congrArg some (by kernel_rfl))
  f319 := Tryd.func95.trans (congrArg some (by kernel_rfl))
  f320 := Tryd.func96.trans (congrArg some (by kernel_rfl))
  f337 := Tryd.func97.trans (congrArg some (by kernel_rfl))
  f338 := Tryd.func98.trans (congrArg some (by kernel_rfl))
  t0 := Tryd.underlying0
  a0 := Tryd.isAgg0
  z0 := Tryd.sizeOf0
  v0 := Tryd.zeroValue0
  t2 := Tryd.underlying2
  a2 := Tryd.isAgg2
  z2 := Tryd.sizeOf2
  v2 := Tryd.zeroValue2
  t3 := Tryd.underlying3
  a3 := Tryd.isAgg3
  z3 := Tryd.sizeOf3
  v3 := Tryd.zeroValue3
  t4 := Tryd.underlying4
  a4 := Tryd.isAgg4
  z4 := Tryd.sizeOf4
  v4 := Tryd.zeroValue4
  t5 := Tryd.underlying5
  a5 := Tryd.isAgg5
  z5 := Tryd.sizeOf5
  v5 := Tryd.zeroValue5
  t9 := Tryd.underlying9
  a9 := Tryd.isAgg9
  z9 := Tryd.sizeOf9
  v9 := Tryd.zeroValue9
  t20 := Tryd.underlying20
  a20 := Tryd.isAgg20
  z20 := Tryd.sizeOf20
  v20 := Tryd.zeroValue20
  t37 := Tryd.underlying99
  a37 := Tryd.isAgg99
  z37 := Tryd.sizeOf99
  v37 := Tryd.zeroValue99
  t46 := Tryd.underlying130
  a46 := Tryd.isAgg130
  z46 := Tryd.sizeOf130
  v46 := Tryd.zeroValue130
  t51 := Tryd.underlying149
  a51 := Tryd.isAgg149
  z51 := Tryd.sizeOf149
  v51 := Tryd.zeroValue149
  t53 := Tryd.underlying127
  a53 := Tryd.isAgg127
  z53 := Tryd.sizeOf127
  v53 := Tryd.zeroValue127
  t171 := Tryd.underlying141
  a171 := Tryd.isAgg141
  z171 := Tryd.sizeOf141
  v171 := Tryd.zeroValue141
  t173 := Tryd.underlying144
  a173 := Tryd.isAgg144
  z173 := Tryd.sizeOf144
  v173 := Tryd.zeroValue144
  t212 := Tryd.underlying148
  a212 := Tryd.isAgg148
  z212 := Tryd.sizeOf148
  v212 := Tryd.zeroValue148
  t213 := Tryd.underlying150
  a213 := Tryd.isAgg150
  z213 := Tryd.sizeOf150
  t232 := Tryd.underlying153
  a232 := Tryd.isAgg153
  z232 := Tryd.sizeOf153
  v232 := Tryd.zeroValue153
  t233 := Tryd.underlying154
  a233 := Tryd.isAgg154
  z233 := Tryd.sizeOf154
  v233 := Tryd.zeroValue154
  g17 := by kernel_rfl
  g18 := by kernel_rfl
  g19 := by kernel_rfl
  i0 := by kernel_rfl
  i2 := by kernel_rfl
  i3 := by kernel_rfl
  i4 := by kernel_rfl
  i5 := by kernel_rfl
  i9 := by kernel_rfl
  i20 := by kernel_rfl
  i37 := by kernel_rfl
  i46 := by kernel_rfl
  i51 := by kernel_rfl
  i53 := by kernel_rfl
  i171 := by kernel_rfl
  i173 := by kernel_rfl
  i212 := by kernel_rfl
  i232 := by kernel_rfl
  i233 := by kernel_rfl
  m17 := by kernel_rfl
  m18 := by kernel_rfl
  m19 := by kernel_rfl }
namespace YtmkllibfblacfaaDoor
open Go.RowKit
/-- the table of powers of ten reads as its initialiser lays it -/
abbrev Pow10 (w : World) : Prop := Lib.TabIs Tryd.prog w "internal/strconv.uint64pow10" .u64 Lib.pow10Tab
/-- it lies below -/
theorem pow10_below {w w' : World} (h : Pow10 w) (hb : Below w.heap.size w w') : Pow10 w' := by
  unfold Pow10 Lib.TabIs World.var? at *
  cases hg : Tryd.prog.globalNamed "internal/strconv.uint64pow10" with
  | none => simp [hg] at h
  | some g =>
    simp only [hg, Option.bind_some] at h ⊢
    have hlt : g < w.heap.size := by
      rcases Nat.lt_or_ge g w.heap.size with h' | h'
      · exact h'
      · rw [Array.getElem?_eq_none h'] at h; simp at h
    rw [hb.block g hlt]
    exact h
theorem itoa_any (n : Int) (h0 : -9223372036854775808 ≤ n) (h1 : n ≤ 9223372036854775807) (w : World) (htab : Pow10 w) :
    Calls Tryd.prog 83 #[.int .i64 n] w fun e w' => e = .returned (.string ⟨(Lib.itoa n).toArray⟩) ∧ Below w.heap.size w w' :=
  (Any.strconv_Itoa Tryd.ita171 n h0 h1 w htab).mono fun _ _ ⟨h, k, os, h2⟩ => ⟨h, by
    subst h2
    refine ⟨rfl, rfl, rfl, by rw [Sort.size_grow]; exact Nat.le_add_right _ _, fun j hj => ?_⟩
    exact Sort.heap_grow_old (w.drewN k) os hj⟩
end YtmkllibfblacfaaDoor
end Go.Proofs

/-
  Layer 12: a value's text, the program's and the document's.
-/
namespace Go.Proofs.YtmkllibfblacfaaDoor
open Go.RowKit
/-- a value's box, behind whatever was made since -/
theorem box12_at (v : Vl.V) {w w1 : World} (hb : Below (w.alloc (.cells (valC v) 29)).heap.size (w.alloc (.cells (valC v) 29)) w1) :
    w1.cell? ⟨w.heap.size, 0, none⟩ = some (.int .i64 v.kind) ∧ w1.cell? ⟨w.heap.size, 1, none⟩ = some (.int .i64 v.n) ∧ w1.cell? ⟨w.heap.size, 2, none⟩ = some (.string v.s) ∧ Below w.heap.size w w1 := by
  have hlt : w.heap.size < (w.alloc (.cells (valC v) 29)).heap.size := by rw [World.size_alloc]; omega
  have hc := fun (j : Nat) => hb.cell (p := ⟨w.heap.size, j, none⟩) hlt
  refine ⟨(hc 0).trans ?_, (hc 1).trans ?_, (hc 2).trans ?_, below_box _ hb⟩
  · rw [World.cell?_alloc_at _ _ _ _ rfl]; rfl
  · rw [World.cell?_alloc_at _ _ _ _ rfl]; rfl
  · rw [World.cell?_alloc_at _ _ _ _ rfl]; rfl
/-- what Text tells -/
def textB (v : Vl.V) : ByteArray := if Vl.right v then Vl.text v else Vl.mt
theorem text_bad {v : Vl.V} (h : ¬ Vl.right v) : textB v = Vl.mt := if_neg h
theorem text_ok {v : Vl.V} (h : Vl.right v) : textB v = Vl.text v := if_pos h
theorem boolL_eq (n : Int) (h : n = 0 ∨ n = 1) : (if (n != 0) = true then (⟨#[116, 114, 117, 101]⟩ : ByteArray) else ⟨#[102, 97, 108, 115, 101]⟩) = ⟨(Vl.boolL n).toArray⟩ := by
  rcases h with rfl | rfl <;> rfl
end Go.Proofs.YtmkllibfblacfaaDoor

/-
  Layer 14: what an expression is written as, the document's.
-/
namespace Go.Proofs.YtmkllibfblacfaaDoor
open Go.RowKit
open Sx (X)
namespace Sx
@[simp] theorem op_mk (o : Int) (v : Vl.V) (s : ByteArray) (l : List X) : (X.mk o v s l).op = o := rfl
@[simp] theorem v_mk (o : Int) (v : Vl.V) (s : ByteArray) (l : List X) : (X.mk o v s l).v = v := rfl
@[simp] theorem s_mk (o : Int) (v : Vl.V) (s : ByteArray) (l : List X) : (X.mk o v s l).s = s := rfl
@[simp] theorem l_mk (o : Int) (v : Vl.V) (s : ByteArray) (l : List X) : (X.mk o v s l).l = l := rfl
/-- an expression at a level, as a text -/
def wt (x : X) (lev : Nat) : ByteArray := Lx.mk (flat (wr x lev))
theorem mk_cat (a b : List UInt8) : Lx.mk a ++ Lx.mk b = Lx.mk (a ++ b) := by apply Sl.ba_ext; rw [ByteArray.data_append]; simp
theorem tok_len {t : Lx.T} (h : Lx.right t) (hn : t.n ≤ Lx.maxI) : (Lx.textL t).length ≤ 85 := by
  obtain ⟨k, s, n, a⟩ := t
  have hl : s.data.toList.length = s.size := Array.length_toList ..
  rcases h with ⟨rfl, _, _, _, h⟩ | ⟨rfl, h, _⟩ | ⟨rfl, _, h⟩ | ⟨rfl, h, _⟩
  · show s.data.toList.length ≤ 85
    have : s.size ≤ 16 := h
    omega
  · have h0 : 0 ≤ n := h
    have h1 : n ≤ 9223372036854775807 := hn
    have := Lib.itoa_length_le n (by omega) h1
    show (Lib.itoa n).length ≤ 85
    omega
  · show (Vl.quoteL s.data.toList).length ≤ 85
    have h40 : s.size ≤ 40 := h.1
    have := Vl.esc_len s.data.toList
    unfold Vl.quoteL
    simp only [List.length_cons, List.length_append, List.length_nil]
    omega
  · have hm : ∀ m ∈ Lx.marks, m.length ≤ 85 := by decide
    exact hm _ h
theorem flat_len : ∀ (k : Nat) (x : X), size x ≤ k → right x = true → fit x = true → (flat (ps x)).length ≤ 100 * size x ∧ ∀ lev, (flat (wr x lev)).length ≤ 100 * size x + 2 := by
  intro k
  induction k with
  | zero => intro x hk; have := size_pos x; omega
  | succ k ih =>
    intro x hk hr hf
    have own : (flat (ps x)).length ≤ 100 * size x := by
      cases form_of hr with
      | val v h hn =>
        have hm : v.n ≤ 9223372036854775807 := by
          simp only [fit, Bool.and_eq_true, decide_eq_true_eq] at hf; exact hf.1
        obtain ⟨h1, h2, _⟩ := valT_right h hn hm
        have h3 := tok_len h1 h2
        have e : flat (ps (.mk 1 v Vl.mt [])) = Lx.textL (valT v) ++ [] := rfl
        have hs : size (.mk 1 v Vl.mt []) = 1 := rfl
        rw [e, List.append_nil, hs]; omega
      | name s h =>
        have h3 := tok_len (nameT_right h) (show (0 : Int) ≤ _ by decide)
        have e : flat (ps (.mk 2 Vl.no s [])) = Lx.textL ⟨1, s, 0, 0⟩ ++ [] := rfl
        have hs : size (.mk 2 Vl.no s []) = 1 := rfl
        rw [e, List.append_nil, hs]; omega
      | neg a h =>
        have hsz : size (.mk 3 Vl.no Vl.mt [a]) = 1 + (size a + 0) := rfl
        have hfa : fit a = true := by simp only [fit, fitL, Bool.and_eq_true] at hf; exact hf.2.1
        have h1 := (ih a (by omega) h hfa).2 6
        have e : flat (ps (.mk 3 Vl.no Vl.mt [a])) = 45 :: flat (wr a 6) := rfl
        rw [e, List.length_cons]; omega
      | bin op a b h4 h15 ha hb =>
        have hsz : size (bin op a b) = 1 + (size a + (size b + 0)) := rfl
        have hfa : fit a = true ∧ fit b = true := by simp only [fit, fitL, Bool.and_eq_true] at hf; exact ⟨hf.2.1, hf.2.2.1⟩
        obtain ⟨h1, h2, _⟩ := opT_right h4 h15
        have h3 := tok_len h1 h2
        have ha1 := (ih a (by omega) ha hfa.1).2 (left op)
        have hb1 := (ih b (by omega) hb hfa.2).2 (lvl op + 1)
        rw [ps_bin a b h4 h15, flat_app, flat_app]
        have e : flat [.gap, .tok (opT op), .gap] = 32 :: (Lx.textL (opT op) ++ [32]) := by simp [flat, flat1]
        rw [e]
        simp only [List.length_append, List.length_cons, List.length_nil]
        omega
      | cond a b c ha hb hc =>
        have hsz : size (.mk 16 Vl.no Vl.mt [a, b, c]) = 1 + (size a + (size b + (size c + 0))) := rfl
        have hfa : fit a = true ∧ fit b = true ∧ fit c = true := by simp only [fit, fitL, Bool.and_eq_true] at hf; exact ⟨hf.2.1, hf.2.2.1, hf.2.2.2.1⟩
        have ha1 := (ih a (by omega) ha hfa.1).2 0
        have hb1 := (ih b (by omega) hb hfa.2.1).2 0
        have hc1 := (ih c (by omega) hc hfa.2.2).2 0
        rw [ps_cond, flat_app, flat_app, flat_app, flat_app, flat_app]
        have e1 : (flat [.tok (word [105, 102]), .gap]).length = 3 := by decide +kernel
        have e2 : (flat [.gap, .tok (word [116, 104, 101, 110]), .gap]).length = 6 := by decide +kernel
        have e3 : (flat [.gap, .tok (word [101, 108, 115, 101]), .gap]).length = 6 := by decide +kernel
        simp only [List.length_append, e1, e2, e3]
        omega
    refine ⟨own, fun lev => ?_⟩
    by_cases hlt : lvl x.op < lev
    · rw [wr_paren hlt, wr_open (Nat.zero_le _)]
      have e : flat (.tok (mark [40]) :: (ps x ++ [.tok (mark [41])])) = 40 :: flat (ps x ++ [.tok (mark [41])]) := rfl
      rw [e, flat_app, List.length_cons, List.length_append]
      have e2 : (flat [.tok (mark [41])]).length = 1 := by decide +kernel
      omega
    · rw [wr_open (by omega)]; omega
theorem wt_size {x : X} (hr : right x = true) (hf : fit x = true) (lev : Nat) : (wt x lev).size ≤ 100 * size x + 2 := by
  have := (flat_len _ x (Nat.le_refl _) hr hf).2 lev
  show (flat (wr x lev)).toArray.size ≤ _
  rw [List.size_toArray]; exact this
theorem wt_own {x : X} {lev : Nat} (h : lev ≤ lvl x.op) : wt x lev = Lx.mk (flat (ps x)) := by unfold wt; rw [wr_open h]
theorem wt_paren {x : X} {lev : Nat} (h : lvl x.op < lev) : wt x lev = ⟨#[40]⟩ ++ wt x 0 ++ ⟨#[41]⟩ := by
  have e1 : (⟨#[40]⟩ : ByteArray) = Lx.mk [40] := rfl
  have e2 : (⟨#[41]⟩ : ByteArray) = Lx.mk [41] := rfl
  unfold wt
  rw [e1, e2, mk_cat, mk_cat, wr_paren h]
  congr 1
  show 40 :: flat (wr x 0 ++ [.tok (mark [41])]) = _
  rw [flat_app]; rfl
theorem wt_neg (y : X) : Lx.mk (flat (ps (.mk 3 Vl.no Vl.mt [y]))) = ⟨#[45]⟩ ++ wt y 6 := by
  have e1 : (⟨#[45]⟩ : ByteArray) = Lx.mk [45] := rfl
  rw [e1]; unfold wt; rw [mk_cat]; rfl
theorem wt_bin {op : Int} (y1 y2 : X) (h4 : 4 ≤ op) (h15 : op ≤ 15) : Lx.mk (flat (ps (bin op y1 y2))) = wt y1 (left op) ++ ⟨#[32]⟩ ++ Lx.mk (sign op) ++ ⟨#[32]⟩ ++ wt y2 (lvl op + 1) := by
  have e1 : (⟨#[32]⟩ : ByteArray) = Lx.mk [32] := rfl
  have e : flat [.gap, .tok (opT op), .gap] = [32] ++ (sign op ++ [32]) := by
    have : Lx.textL (opT op) = sign op := by
      unfold opT Lx.textL
      split <;> rfl
    simp [flat, flat1, this]
  rw [ps_bin y1 y2 h4 h15, flat_app, flat_app, e, e1]
  unfold wt
  rw [mk_cat, mk_cat, mk_cat, mk_cat]
  simp [List.append_assoc]
theorem wt_cond (y1 y2 y3 : X) : Lx.mk (flat (ps (.mk 16 Vl.no Vl.mt [y1, y2, y3]))) = ⟨#[105, 102, 32]⟩ ++ wt y1 0 ++ ⟨#[32, 116, 104, 101, 110, 32]⟩ ++ wt y2 0 ++ ⟨#[32, 101, 108, 115, 101, 32]⟩ ++ wt y3 0 := by
  have e1 : (⟨#[105, 102, 32]⟩ : ByteArray) = Lx.mk [105, 102, 32] := rfl
  have e2 : (⟨#[32, 116, 104, 101, 110, 32]⟩ : ByteArray) = Lx.mk [32, 116, 104, 101, 110, 32] := rfl
  have e3 : (⟨#[32, 101, 108, 115, 101, 32]⟩ : ByteArray) = Lx.mk [32, 101, 108, 115, 101, 32] := rfl
  rw [ps_cond, flat_app, flat_app, flat_app, flat_app, flat_app, e1, e2, e3]
  unfold wt
  rw [mk_cat, mk_cat, mk_cat, mk_cat, mk_cat]
  have f1 : flat [.tok (word [105, 102]), .gap] = [105, 102, 32] := by decide +kernel
  have f2 : flat [.gap, .tok (word [116, 104, 101, 110]), .gap] = [32, 116, 104, 101, 110, 32] := by decide +kernel
  have f3 : flat [.gap, .tok (word [101, 108, 115, 101]), .gap] = [32, 101, 108, 115, 101, 32] := by decide +kernel
  rw [f1, f2, f3]
  simp [List.append_assoc]
theorem valT_text {v : Vl.V} (h : Vl.right v) : Lx.mk (Lx.textL (valT v)) = Vl.text v := by
  obtain ⟨k, m, s⟩ := v
  rcases h with ⟨h1, h2, h3⟩ | ⟨h1, h3⟩ | ⟨h1, h2, h3⟩ | ⟨h1, h2, h3⟩
  · simp only at h1 h2 h3; subst h1 h2 h3; kernel_rfl
  · simp only at h1 h3; subst h1 h3; rfl
  · simp only at h1 h2; subst h1 h2; rfl
  · simp only at h1 h2 h3; subst h1 h3
    rcases h2 with rfl | rfl
    · kernel_rfl
    · kernel_rfl
theorem wt_val {v : Vl.V} (h : Vl.right v) : Lx.mk (flat (ps (.mk 1 v Vl.mt []))) = Vl.text v := by
  have e : flat (ps (.mk 1 v Vl.mt [])) = Lx.textL (valT v) ++ [] := rfl
  rw [e, List.append_nil, valT_text h]
theorem wt_name (s : ByteArray) : Lx.mk (flat (ps (.mk 2 Vl.no s []))) = s := by
  have e : flat (ps (.mk 2 Vl.no s [])) = s.data.toList ++ [] := rfl
  rw [e, List.append_nil]
end Sx
theorem cell_keep {w w' : World} {p : Addr} {v : Value} (hb : Below w.heap.size w w') (hc : w.cell? p = some v) : w'.cell? p = some v := (hb.cell (World.block_lt_of_cell? _ _ hc)).trans hc
theorem xat_l1 {w : World} {S : Nat → Prop} {op : Int} {v : Vl.V} {s : ByteArray} {y : X} {a : Option Addr} (h : XAt w S (.mk op v s [y]) a) : ∃ b o a1 q1, a = some ⟨b, o, none⟩ ∧ Cells6 w b o y a1 q1 ∧ XAt w S y a1 := by
  obtain ⟨b, o, a1, q1, h1, h2, h3⟩ := xat_at h 0 (by show 0 < 1; omega)
  exact ⟨b, o, a1, q1, h1, by rw [Nat.zero_mul, Nat.add_zero] at h2; exact h2, h3⟩
theorem cells6_keep {w w' : World} {b o : Nat} {x : X} {a : Option Addr} {c : Nat} (h : Cells6 w b o x a c) (hb : Below w.heap.size w w') : Cells6 w' b o x a c :=
  cells6_only h (Only.of_none (F := fun _ => False) hb) fun h => h
theorem xat_l2 {w : World} {S : Nat → Prop} {op : Int} {v : Vl.V} {s : ByteArray} {y1 y2 : X} {a : Option Addr} (h : XAt w S (.mk op v s [y1, y2]) a) : ∃ b o a1 q1 a2 q2, a = some ⟨b, o, none⟩ ∧ Cells6 w b o y1 a1 q1 ∧ Cells6 w b (o + 6) y2 a2 q2 ∧ XAt w S y1 a1 ∧ XAt w S y2 a2 := by
  rw [XAt] at h
  rcases h with h | ⟨b, o, h1, _, h3⟩
  · cases h
  · rw [LAt, LAt] at h3
    obtain ⟨⟨a1, q1, h4, h5⟩, ⟨a2, q2, h6, h7⟩, _⟩ := h3
    exact ⟨b, o, a1, q1, a2, q2, h1, h4, h6, h5, h7⟩
theorem xat_l3 {w : World} {S : Nat → Prop} {op : Int} {v : Vl.V} {s : ByteArray} {y1 y2 y3 : X} {a : Option Addr} (h : XAt w S (.mk op v s [y1, y2, y3]) a) : ∃ b o a1 q1 a2 q2 a3 q3, a = some ⟨b, o, none⟩ ∧ Cells6 w b o y1 a1 q1 ∧ Cells6 w b (o + 6) y2 a2 q2 ∧ Cells6 w b (o + 12) y3 a3 q3 ∧ XAt w S y1 a1 ∧ XAt w S y2 a2 ∧ XAt w S y3 a3 := by
  rw [XAt] at h
  rcases h with h | ⟨b, o, h1, _, h3⟩
  · cases h
  · rw [LAt, LAt, LAt] at h3
    obtain ⟨⟨a1, q1, h4, h5⟩, ⟨a2, q2, h6, h7⟩, ⟨a3, q3, h8, h9⟩, _⟩ := h3
    exact ⟨b, o, a1, q1, a2, q2, a3, q3, h1, h4, h6, h8, h5, h7, h9⟩
end Go.Proofs.YtmkllibfblacfaaDoor

/-
  Layer 14: an expression's text, the document's.
-/
namespace Go.Proofs.YtmkllibfblacfaaDoor
open Go.RowKit
open Sx (X)
namespace Sx
theorem size_deep : ∀ (n : Nat) (x : X), deep x ≤ n → right x = true → 2 * size x + 1 ≤ 3 ^ n := by
  intro n
  induction n with
  | zero => intro x hd; have := deep_pos x; omega
  | succ n ih =>
    intro x hd hr
    have h3 : 3 ^ (n + 1) = 3 * 3 ^ n := by rw [Nat.pow_succ]; omega
    have hp : 1 ≤ 3 ^ n := Nat.one_le_pow n 3 (by omega)
    cases form_of hr with
    | val v h hn =>
      have hs : size (.mk 1 v Vl.mt []) = 1 := rfl
      rw [hs]; omega
    | name s h =>
      have hs : size (.mk 2 Vl.no s []) = 1 := rfl
      rw [hs]; omega
    | neg a h =>
      have hs : size (.mk 3 Vl.no Vl.mt [a]) = 1 + (size a + 0) := rfl
      have hdy : deep (.mk 3 Vl.no Vl.mt [a]) = max (deep a) 0 + 1 := rfl
      have := ih a (by omega) h
      omega
    | bin op a b h4 h15 ha hb =>
      have hs : size (bin op a b) = 1 + (size a + (size b + 0)) := rfl
      have hdy : deep (bin op a b) = max (deep a) (max (deep b) 0) + 1 := rfl
      have h1 := ih a (by omega) ha
      have h2 := ih b (by omega) hb
      omega
    | cond a b c ha hb hc =>
      have hs : size (.mk 16 Vl.no Vl.mt [a, b, c]) = 1 + (size a + (size b + (size c + 0))) := rfl
      have hdy : deep (.mk 16 Vl.no Vl.mt [a, b, c]) = max (deep a) (max (deep b) (max (deep c) 0)) + 1 := rfl
      have h1 := ih a (by omega) ha
      have h2 := ih b (by omega) hb
      have h3 := ih c (by omega) hc
      omega
theorem size_12 {x : X} (hd : deep x ≤ 12) (hr : right x = true) : size x ≤ 265720 := by
  have := size_deep 12 x hd hr
  have h : (3 : Nat) ^ 12 = 531441 := by decide
  omega
mutual
theorem fit_ok : ∀ x : X, okX x → fit x = true
  | .mk o v s l, h => by
    rw [okX] at h
    rw [fit, decide_eq_true h.1.2, fitL_ok l h.2.2.2.2]; rfl
theorem fitL_ok : ∀ l : List X, okL l → fitL l = true
  | [], _ => by rw [fitL]
  | x :: r, h => by
    rw [okL] at h
    rw [fitL, fit_ok x h.1, fitL_ok r h.2]; rfl
end
end Sx
end Go.Proofs.YtmkllibfblacfaaDoor

/-
  Layer 14: the document's reader of tokens: what stands here, what must stand here.
-/
namespace Go.Proofs.YtmkllibfblacfaaDoor
open Go.RowKit
open Sx (X toksOf isT)
theorem toksOf_at {L : List Lx.T} {p : Nat} (h : p < L.length) : toksOf L p = some (Lx.strip L[p]) := by unfold toksOf; rw [List.getElem?_eq_getElem h]; rfl
theorem toksOf_no {L : List Lx.T} {p : Nat} (h : L.length ≤ p) : toksOf L p = none := by unfold toksOf; rw [List.getElem?_eq_none h]; rfl
theorem isT_at {L : List Lx.T} {p : Nat} (h : p < L.length) (kind : Int) (s : List UInt8) : isT (toksOf L p) kind s = (decide (L[p].kind = kind) && decide (L[p].s = Lx.mk s)) := by rw [toksOf_at h]; rfl
end Go.Proofs.YtmkllibfblacfaaDoor

/-
  Layer 14: the document's reader of tokens: which op of two stands here.
-/
namespace Go.Proofs.YtmkllibfblacfaaDoor
open Go.RowKit
open Sx (X toksOf isT)
namespace Sx
def opFrom (t : Option Lx.T) (lev : Nat) (o : Int) : Option Int := (ops.drop (o - 4).toNat).find? (isOp t lev)
theorem opFrom_at (t : Option Lx.T) (lev : Nat) : opAt t lev = opFrom t lev 4 := rfl
theorem opFrom_end (t : Option Lx.T) (lev : Nat) : opFrom t lev 16 = none := rfl
theorem opFrom_step (t : Option Lx.T) (lev : Nat) {o : Int} (h4 : 4 ≤ o) (h15 : o ≤ 15) : opFrom t lev o = if isOp t lev o then some o else opFrom t lev (o + 1) := by
  have key : ∀ (x : Int) (l : List Int), (x :: l).find? (isOp t lev) = if isOp t lev x then some x else l.find? (isOp t lev) := fun x l => by
    rw [List.find?_cons]; cases isOp t lev x <;> rfl
  rcases op_facts h4 h15 with rfl | rfl | rfl | rfl | rfl | rfl | rfl | rfl | rfl | rfl | rfl | rfl <;> exact key _ _
end Sx
end Go.Proofs.YtmkllibfblacfaaDoor

/-
  Layer 14: the document's reader of tokens: what is at level 7.
-/
namespace Go.Proofs.YtmkllibfblacfaaDoor
open Go.RowKit
open Sx (X toksOf isT)
theorem results_cell_one14 {fn : Func} {p : Tmp} {ty : TypeId} (h : fn.results = #[.cell p ty]) (tmps : Array Value) (P : Program) (w : World) :
    (results fn tmps).run P w = ((asAddr (tmps.getD p undef)).run P w).andThen fun a w₁ => (loadVar ty a).run P w₁ := by
  simp only [results, h]
  simp [Sem.run_bind, Result.andThen]
set_option maxRecDepth 100000 in
theorem results_x {fn : Func} {p : Tmp} (h : fn.results = #[.cell p 35]) (tmps : Array Value) (w : World) (g : Nat) (x : X) (a : Option Addr) (c : Nat)
    (hp : tmps.getD p undef = .pointer (some ⟨g, 0, none⟩)) (hg : RowV w g 35 (xC x a c).toList) :
    (results fn tmps).run Tryd.prog w = .ok (xV x a c) w := by
  have hl := run_loadVar_row (P := Tryd.prog) w g 35 35 (xC x a c) (0, 0) _ hg Tryd.underlying35 rfl info_expr
  rw [results_cell_one14 h, hp]
  simp only [asAddr, Sem.run_pure, Result.andThen]
  rw [hl]
/-- an expression stored into its box -/
theorem x_put {w : World} {N : Nat} {x : X} {a : Option Addr} {c : Nat} (hr : RowV w N 35 (xC x a c).toList) (op k n : Int) (vs s : ByteArray) (b : Option Addr) (m d : Nat) :
    RowV ((((((w.setCell ⟨N, 0, none⟩ (.int .i64 op)).setCell ⟨N, 1, none⟩ (.int .i64 k)).setCell ⟨N, 2, none⟩ (.int .i64 n)).setCell ⟨N, 3, none⟩ (.string vs)).setCell ⟨N, 4, none⟩ (.string s)).setCell ⟨N, 5, none⟩ (.slice b m d)) N 35 [.int .i64 op, .int .i64 k, .int .i64 n, .string vs, .string s, .slice b m d] ∧
    ∀ F : Nat → Prop, F N → Only F w ((((((w.setCell ⟨N, 0, none⟩ (.int .i64 op)).setCell ⟨N, 1, none⟩ (.int .i64 k)).setCell ⟨N, 2, none⟩ (.int .i64 n)).setCell ⟨N, 3, none⟩ (.string vs)).setCell ⟨N, 4, none⟩ (.string s)).setCell ⟨N, 5, none⟩ (.slice b m d)) :=
  ⟨rowV_stored (rowV_stored (rowV_stored (rowV_stored (rowV_stored (rowV_stored hr 0 (.int .i64 op)) 1 (.int .i64 k)) 2 (.int .i64 n)) 3 (.string vs)) 4 (.string s)) 5 (.slice b m d),
    fun F hF => ((((((Only.refl F w).setCell (g := N) (fun _ => hF) _).setCell (g := N) (fun _ => hF) _).setCell (g := N) (fun _ => hF) _).setCell (g := N) (fun _ => hF) _).setCell (g := N) (fun _ => hF) _).setCell (g := N) (fun _ => hF) _⟩
theorem x_ice {w : World} {g : Nat} {x : X} {a : Option Addr} {c : Nat} (h : RowV w g 35 (xC x a c).toList) : w.frozen? ⟨g, 0, none⟩ = false ∧ w.frozen? ⟨g, 1, none⟩ = false ∧ w.frozen? ⟨g, 2, none⟩ = false ∧ w.frozen? ⟨g, 3, none⟩ = false ∧ w.frozen? ⟨g, 4, none⟩ = false ∧ w.frozen? ⟨g, 5, none⟩ = false :=
  ⟨rowV_frozen h 0, rowV_frozen h 1, rowV_frozen h 2, rowV_frozen h 3, rowV_frozen h 4, rowV_frozen h 5⟩
/-- a new box for an expression -/
theorem no_new (w : World) : RowV (w.alloc (.cells #[.int .i64 0, .int .i64 0, .int .i64 0, .string ⟨#[]⟩, .string ⟨#[]⟩, .slice none 0 0] 35)) w.heap.size 35 (xC Sx.no none 0).toList ∧ Below w.heap.size w (w.alloc (.cells #[.int .i64 0, .int .i64 0, .int .i64 0, .string ⟨#[]⟩, .string ⟨#[]⟩, .slice none 0 0] 35)) ∧ (w.alloc (.cells #[.int .i64 0, .int .i64 0, .int .i64 0, .string ⟨#[]⟩, .string ⟨#[]⟩, .slice none 0 0] 35)).heap.size = w.heap.size + 1 := x_new Sx.no none 0 w
end Go.Proofs.YtmkllibfblacfaaDoor

/-
  Layer 14, the program's: the token and the word that stand here; what they are of tokens that are right.
-/
namespace Go.Proofs.YtmkllibfblacfaaDoor
open Go.RowKit
open Sx (X toksOf isT)
namespace Sx
def tokAt (L : List Lx.T) (p : Nat) : Lx.T := (L[p]?).getD Lx.no
/-- the name or mark that a token is -/
def wdT (t : Lx.T) : ByteArray := if t.kind = 1 ∨ t.kind = 4 then t.s else Vl.mt
def wd (L : List Lx.T) (p : Nat) : ByteArray := wdT (tokAt L p)
theorem tokAt_in {L : List Lx.T} {p : Nat} (h : p < L.length) : tokAt L p = L[p] := by unfold tokAt; rw [List.getElem?_eq_getElem h]; rfl
theorem tokAt_out {L : List Lx.T} {p : Nat} (h : L.length ≤ p) : tokAt L p = Lx.no := by unfold tokAt; rw [List.getElem?_eq_none h]; rfl
section
variable {L : List Lx.T}
theorem wd_is {p : Nat} {k : Int} {s : List UInt8} (h : isT (toksOf L p) k s = true) (hk : k = 1 ∨ k = 4) : wd L p = Lx.mk s := by
  unfold toksOf at h
  cases hp : L[p]? with
  | none => rw [hp] at h; simp [isT] at h
  | some t =>
    rw [hp] at h
    simp only [Option.map_some, isT, Bool.and_eq_true, decide_eq_true_eq] at h
    have h1 : t.kind = k := h.1
    have h2 : t.s = Lx.mk s := h.2
    unfold wd tokAt wdT
    rw [hp]
    simp only [Option.getD_some]
    rw [if_pos (by omega), h2]
theorem mark_ne : ∀ m ∈ Lx.marks, Lx.word false m ≠ m.length := by decide +kernel
theorem mk_size (l : List UInt8) : (Lx.mk l).size = l.length := List.size_toArray ..
theorem mk_list (l : List UInt8) : (Lx.mk l).data.toList = l := rfl
/-- a right token's word is a text just if it is that token -/
theorem wd_not {p : Nat} (hL : ∀ t ∈ L, Lx.right t) {k : Int} {s : List UInt8} (h : isT (toksOf L p) k s = false) (hk : (k = 1 ∧ Lx.word false s = s.length ∧ s ≠ []) ∨ (k = 4 ∧ s ∈ Lx.marks)) : ¬ wd L p = Lx.mk s := by
  have hs : ¬ Lx.mk s = Vl.mt := by
    intro e
    have e2 : s = [] := congrArg (fun b : ByteArray => b.data.toList) e
    rcases hk with h | h
    · exact h.2.2 e2
    · rw [e2] at h; exact absurd h.2 (by decide)
  intro he
  unfold toksOf at h
  unfold wd tokAt at he
  cases hp : L[p]? with
  | none =>
    rw [hp] at he
    exact hs (he.symm.trans (by decide +kernel))
  | some t =>
    rw [hp] at h he
    simp only [Option.getD_some] at he
    have hr := hL t (List.mem_of_getElem? hp)
    unfold wdT at he
    split at he
    · rename_i hkind
      have hne : ¬ t.kind = k := fun e => by
        simp only [Option.map_some, isT] at h
        have h1 : decide ((Lx.strip t).kind = k) = true := decide_eq_true e
        have h2 : decide ((Lx.strip t).s = Lx.mk s) = true := decide_eq_true he
        rw [h1, h2] at h
        cases h
      rcases hr with ⟨hk1, _, _, hw, _⟩ | ⟨hk2, _⟩ | ⟨hk2, _⟩ | ⟨hk4, hm, _⟩
      · rcases hk with h' | h'
        · omega
        · rw [he, mk_list, mk_size] at hw
          exact mark_ne s h'.2 hw
      · omega
      · omega
      · rcases hk with h' | h'
        · rw [he, mk_list] at hm
          exact mark_ne s hm h'.2.1
        · omega
    · exact hs he.symm
theorem sign_ok : ∀ op ∈ ops, (kindOf op = 1 ∧ Lx.word false (sign op) = (sign op).length ∧ sign op ≠ []) ∨ (kindOf op = 4 ∧ sign op ∈ Lx.marks) := by decide +kernel
theorem kind_ok : ∀ op ∈ ops, kindOf op = 1 ∨ kindOf op = 4 := by decide +kernel
theorem find_congr {α : Type} {p q : α → Bool} : ∀ (l : List α), (∀ x ∈ l, p x = q x) → l.find? p = l.find? q
  | [], _ => rfl
  | x :: l, h => by
    rw [List.find?_cons, List.find?_cons, h x (List.mem_cons_self ..), find_congr l fun y hy => h y (List.mem_cons_of_mem _ hy)]
theorem opW_wd {p : Nat} (hL : ∀ t ∈ L, Lx.right t) : opW (wd L p) = opOf (toksOf L p) := by
  unfold opW opOf
  refine find_congr _ fun op hop => ?_
  cases h : isT (toksOf L p) (kindOf op) (sign op) with
  | true => exact decide_eq_true (wd_is h (kind_ok op hop)).symm
  | false => exact decide_eq_false fun e => wd_not hL h (sign_ok op hop) e.symm
end
end Sx
set_option maxRecDepth 100000 in
theorem results_cell_one13 {fn : Func} {p : Tmp} {ty : TypeId} (h : fn.results = #[.cell p ty]) (tmps : Array Value) (P : Program) (w : World) :
    (results fn tmps).run P w =
      ((asAddr (tmps.getD p undef)).run P w).andThen fun a w₁ => (loadVar ty a).run P w₁ := by
  simp only [results, h]
  simp [Sem.run_bind, Result.andThen]
set_option maxRecDepth 100000 in
theorem results_tok1 {fn : Func} {p : Tmp} (h : fn.results = #[.cell p 74]) (tmps : Array Value) (w : World) (g : Nat) (v : Lx.T)
    (hp : tmps.getD p undef = .pointer (some ⟨g, 0, none⟩)) (hg : RowV w g 74 (tokC v).toList) :
    (results fn tmps).run Tryd.prog w = .ok (tokV v) w := by
  have hl := run_loadVar_row (P := Tryd.prog) w g 74 74 (tokC v) (0, 0) _ hg Tryd.underlying74 rfl info_tok
  rw [results_cell_one13 h, hp]
  simp only [asAddr, Sem.run_pure, Result.andThen]
  rw [hl]
theorem notok_new (w : World) : RowV (w.alloc (.cells #[.int .i64 0, .string ⟨#[]⟩, .int .i64 0, .int .i64 0] 74)) w.heap.size 74 (tokC Lx.no).toList ∧ Below w.heap.size w (w.alloc (.cells #[.int .i64 0, .string ⟨#[]⟩, .int .i64 0, .int .i64 0] 74)) ∧ (w.alloc (.cells #[.int .i64 0, .string ⟨#[]⟩, .int .i64 0, .int .i64 0] 74)).heap.size = w.heap.size + 1 := tok_new Lx.no w
end Go.Proofs.YtmkllibfblacfaaDoor

/-
  Layer 14: the document's reader of tokens: what is at level 7, where a token stands.
-/
namespace Go.Proofs.YtmkllibfblacfaaDoor
open Go.RowKit
open Sx (X toksOf isT)
theorem wp_alloc14 {P : Program} {o : Oper} {a : Act} {w : World} {K : Act → World → Prop} {Q : Exit → Act → World → Prop} (t : TypeId) (g : Nat) (zs : Array Value) (hrun : (execOp a.eval o).run P w = .ok (.value (.pointer (some ⟨g, 0, none⟩))) (w.alloc (.cells zs t)))
    (h : K (a.put o.dst (.pointer (some ⟨g, 0, none⟩))) (w.alloc (.cells zs t))) : Oper.wp P o a w K Q := by
  unfold Oper.wp
  rw [hrun]
  exact h
theorem tok_one14 (T : Lx.T) : (tokC T).all (·.oneCell') = true := by simp [tokC, Value.oneCell']
/-- what is read at level 7, where what stands behind '(' is read so -/
def Sx.fst (L : List Lx.T) (p : Nat) (r0 : Option X × Nat) : Option X × Nat :=
  match toksOf L p with
  | none => (none, p)
  | some t => match Sx.leaf t with
    | some x => (some x, p + 1)
    | none => if isT (toksOf L p) 4 [40] then
        match r0 with
        | (none, q) => (none, q)
        | (some x, q) => if isT (toksOf L q) 4 [41] then (some x, q + 1) else (none, q)
      else (none, p)
theorem Sx.fst_eq {L : List Lx.T} {p : Nat} (hp : p < L.length) {T : Lx.T} (h : L[p] = T) (r0 : Option X × Nat) : Sx.fst L p r0 = match Sx.leaf T with
    | some x => (some x, p + 1)
    | none => if isT (toksOf L p) 4 [40] then
        (match r0 with | (none, q) => (none, q) | (some x, q) => if isT (toksOf L q) 4 [41] then (some x, q + 1) else (none, q))
      else (none, p) := by
  have e := toksOf_at hp
  rw [h] at e
  unfold Sx.fst
  generalize toksOf L p = g at *
  subst e
  rfl
section
variable {T : Lx.T}
theorem Sx.lf_null (h : (decide (T.kind = 1) && decide (T.s = Lx.mk [110, 117, 108, 108])) = true) : Sx.leaf T = some (.mk 1 ⟨0, 0, ⟨#[]⟩⟩ ⟨#[]⟩ []) := by
  simp only [Bool.and_eq_true, decide_eq_true_eq] at h
  unfold Sx.leaf; rw [if_neg (by omega), if_neg (by omega), if_pos h.1, if_pos h.2]; rfl
theorem Sx.lf_true (h : (decide (T.kind = 1) && decide (T.s = Lx.mk [116, 114, 117, 101])) = true) : Sx.leaf T = some (.mk 1 ⟨3, 1, ⟨#[]⟩⟩ ⟨#[]⟩ []) := by
  simp only [Bool.and_eq_true, decide_eq_true_eq] at h
  unfold Sx.leaf; rw [if_neg (by omega), if_neg (by omega), if_pos h.1, h.2, if_neg (by decide), if_pos rfl]
theorem Sx.lf_false (h : (decide (T.kind = 1) && decide (T.s = Lx.mk [102, 97, 108, 115, 101])) = true) : Sx.leaf T = some (.mk 1 ⟨3, 0, ⟨#[]⟩⟩ ⟨#[]⟩ []) := by
  simp only [Bool.and_eq_true, decide_eq_true_eq] at h
  unfold Sx.leaf; rw [if_neg (by omega), if_neg (by omega), if_pos h.1, h.2, if_neg (by decide), if_neg (by decide), if_pos rfl]
theorem Sx.lf_word (h1 : (decide (T.kind = 1) && decide (T.s = Lx.mk [110, 117, 108, 108])) = false) (h2 : (decide (T.kind = 1) && decide (T.s = Lx.mk [116, 114, 117, 101])) = false) (h3 : (decide (T.kind = 1) && decide (T.s = Lx.mk [102, 97, 108, 115, 101])) = false) (hk : T.kind = 1) : Sx.leaf T = if Lx.nameB T.s then some (.mk 2 Vl.no T.s []) else none := by
  rw [decide_eq_true hk, Bool.true_and, decide_eq_false_iff_not] at h1 h2 h3
  unfold Sx.leaf; rw [if_neg (by omega), if_neg (by omega), if_pos hk, if_neg h1, if_neg h2, if_neg h3]
theorem Sx.lf_other (h1 : ¬ T.kind = 1) (h2 : ¬ T.kind = 2) (h3 : ¬ T.kind = 3) : Sx.leaf T = none := by
  unfold Sx.leaf; rw [if_neg h2, if_neg h3, if_neg h1]
end
end Go.Proofs.YtmkllibfblacfaaDoor

/-
  Layer 14, the program's: the value or name that a token is; the word that stands here.
-/
namespace Go.Proofs.YtmkllibfblacfaaDoor
open Go.RowKit
open Sx (X toksOf isT)
theorem results_cell_tmp14 {fn : Func} {p u : Tmp} {ty : TypeId} (h : fn.results = #[.cell p ty, .tmp u]) (tmps : Array Value) (P : Program) (w : World) :
    (results fn tmps).run P w =
      ((asAddr (tmps.getD p undef)).run P w).andThen fun a w₁ => ((loadVar ty a).run P w₁).andThen fun v w₂ => .ok (.tuple #[v, tmps.getD u undef]) w₂ := by
  simp only [results, h]
  simp [Sem.run_bind, Result.andThen]
set_option maxRecDepth 100000 in
theorem results_x2 {fn : Func} {p u : Tmp} (h : fn.results = #[.cell p 35, .tmp u]) (tmps : Array Value) (w : World) (g : Nat) (y : X) (a : Option Addr) (c : Nat)
    (hp : tmps.getD p undef = .pointer (some ⟨g, 0, none⟩)) (hg : RowV w g 35 (xC y a c).toList) :
    (results fn tmps).run Tryd.prog w = .ok (.tuple #[xV y a c, tmps.getD u undef]) w := by
  have hl := run_loadVar_row (P := Tryd.prog) w g 35 35 (xC y a c) (0, 0) _ hg Tryd.underlying35 rfl info_expr
  rw [results_cell_tmp14 h, hp]
  simp only [asAddr, Sem.run_pure, Result.andThen]
  rw [hl]
abbrev one1 : X := .mk 1 ⟨0, 0, ⟨#[]⟩⟩ ⟨#[]⟩ []
/-- the boxes of singleOf: the token's, the result's, the expression's -/
def Sing (w wx : World) (t : Lx.T) (x : X) : Prop := RowV wx w.heap.size 74 (tokC t).toList ∧ RowV wx (w.heap.size + 1) 35 (xC Sx.no none 0).toList ∧ RowV wx (w.heap.size + 1 + 1) 35 (xC x none 0).toList ∧ Below w.heap.size w wx
theorem sing_new (t : Lx.T) (w : World) : Sing w (((w.alloc (.cells (tokC t) 74)).alloc (.cells #[.int .i64 0, .int .i64 0, .int .i64 0, .string ⟨#[]⟩, .string ⟨#[]⟩, .slice none 0 0] 35)).alloc (.cells #[.int .i64 1, .int .i64 0, .int .i64 0, .string ⟨#[]⟩, .string ⟨#[]⟩, .slice none 0 0] 35)) t one1 := by
  obtain ⟨a1, a2, a3⟩ := tok_new t w
  obtain ⟨b1, b2, b3⟩ := no_new (w.alloc (.cells (tokC t) 74))
  generalize w.alloc (.cells (tokC t) 74) = w1 at *
  obtain ⟨d1, d2, d3⟩ := x_new one1 none 0 (w1.alloc (.cells #[.int .i64 0, .int .i64 0, .int .i64 0, .string ⟨#[]⟩, .string ⟨#[]⟩, .slice none 0 0] 35))
  generalize w1.alloc (.cells #[.int .i64 0, .int .i64 0, .int .i64 0, .string ⟨#[]⟩, .string ⟨#[]⟩, .slice none 0 0] 35) = w2 at *
  rw [a3] at b1
  rw [b3, a3] at d1
  refine ⟨rowV_below (rowV_below a1 b2 (by omega)) d2 (by omega), rowV_below b1 d2 (by omega), d1, ?_⟩
  exact a2.trans ((b2.mono (by omega)).trans (d2.mono (by omega)))
theorem sing_below {w wx wy : World} {t : Lx.T} {x : X} (h : Sing w wx t x) (hb : Below wx.heap.size wx wy) : Sing w wy t x :=
  ⟨rowV_below h.1 hb (rowV_lt h.1), rowV_below h.2.1 hb (rowV_lt h.2.1), rowV_below h.2.2.1 hb (rowV_lt h.2.2.1), h.2.2.2.trans (hb.mono h.2.2.2.size)⟩
theorem sing_end {w wz wy : World} {t : Lx.T} {x : X} (h : Sing w wz t x) (ho : Only (fun k => k = w.heap.size + 1 + 1) wz wy) (op k n : Int) (vs s : ByteArray) :
    RowV ((((((wy.setCell ⟨w.heap.size + 1, 0, none⟩ (.int .i64 op)).setCell ⟨w.heap.size + 1, 1, none⟩ (.int .i64 k)).setCell ⟨w.heap.size + 1, 2, none⟩ (.int .i64 n)).setCell ⟨w.heap.size + 1, 3, none⟩ (.string vs)).setCell ⟨w.heap.size + 1, 4, none⟩ (.string s)).setCell ⟨w.heap.size + 1, 5, none⟩ (.slice none 0 0)) (w.heap.size + 1) 35 (xC (.mk op ⟨k, n, vs⟩ s []) none 0).toList ∧
    Below w.heap.size w ((((((wy.setCell ⟨w.heap.size + 1, 0, none⟩ (.int .i64 op)).setCell ⟨w.heap.size + 1, 1, none⟩ (.int .i64 k)).setCell ⟨w.heap.size + 1, 2, none⟩ (.int .i64 n)).setCell ⟨w.heap.size + 1, 3, none⟩ (.string vs)).setCell ⟨w.heap.size + 1, 4, none⟩ (.string s)).setCell ⟨w.heap.size + 1, 5, none⟩ (.slice none 0 0)) := by
  have h2 := x_put (rowV_only h.2.1 ho (by omega)) op k n vs s none 0 0
  have hb := h.2.2.2.trans (ho.below (fun k _ e => by have e2 : k = w.heap.size + 1 + 1 := e; omega) h.2.2.2.size)
  exact ⟨h2.1, hb.trans ((h2.2 (fun k => k = w.heap.size + 1) rfl).below (fun k _ e => by have e2 : k = w.heap.size + 1 := e; omega) hb.size)⟩
theorem sing_put {w wz : World} (k n : Int) (s : ByteArray) : Only (fun k => k = w.heap.size + 1 + 1) wz (((wz.setCell ⟨w.heap.size + 1 + 1, 1, none⟩ (.int .i64 k)).setCell ⟨w.heap.size + 1 + 1, 2, none⟩ (.int .i64 n)).setCell ⟨w.heap.size + 1 + 1, 3, none⟩ (.string s)) :=
  (((Only.refl _ wz).setCell (F := fun k => k = w.heap.size + 1 + 1) (fun _ => rfl) _).setCell (F := fun k => k = w.heap.size + 1 + 1) (fun _ => rfl) _).setCell (F := fun k => k = w.heap.size + 1 + 1) (fun _ => rfl) _
theorem sing_putx {w wz : World} {t : Lx.T} {x : X} (h : Sing w wz t x) (op k n : Int) (vs s : ByteArray) : Only (fun k => k = w.heap.size + 1 + 1) wz ((((((wz.setCell ⟨w.heap.size + 1 + 1, 0, none⟩ (.int .i64 op)).setCell ⟨w.heap.size + 1 + 1, 1, none⟩ (.int .i64 k)).setCell ⟨w.heap.size + 1 + 1, 2, none⟩ (.int .i64 n)).setCell ⟨w.heap.size + 1 + 1, 3, none⟩ (.string vs)).setCell ⟨w.heap.size + 1 + 1, 4, none⟩ (.string s)).setCell ⟨w.heap.size + 1 + 1, 5, none⟩ (.slice none 0 0)) :=
  (x_put h.2.2.1 op k n vs s none 0 0).2 _ rfl
end Go.Proofs.YtmkllibfblacfaaDoor

/-
  Layer 14: the document's reader of tokens: read; where it goes on to the next level.
-/
namespace Go.Proofs.YtmkllibfblacfaaDoor
open Go.RowKit
open Sx (X toksOf isT)
end Go.Proofs.YtmkllibfblacfaaDoor

/-
  Layer 14: the document's reader of tokens: read, where '-' stands.
-/
namespace Go.Proofs.YtmkllibfblacfaaDoor
open Go.RowKit
open Sx (X toksOf isT)
/-- an expression with '-' ahead -/
def Sx.negR : Option X × Nat → Option X × Nat
  | (none, q) => (none, q)
  | (some a, q) => (some (.mk 3 Vl.no Vl.mt [a]), q)
end Go.Proofs.YtmkllibfblacfaaDoor

/-
  Layer 14: the document's reader of tokens: read, where 'if' stands.
-/
namespace Go.Proofs.YtmkllibfblacfaaDoor
open Go.RowKit
open Sx (X toksOf isT)
namespace Sx
def stP (L : List Lx.T) (s : List UInt8) (r : Option X × Nat) : Nat := if r.1.isNone then r.2 else if isT (toksOf L r.2) 1 s then r.2 + 1 else r.2
def stB (L : List Lx.T) (s : List UInt8) (r : Option X × Nat) : Bool := r.1.isNone || !(isT (toksOf L r.2) 1 s)
def nx (F : Nat → Option X × Nat) (b : Bool) (p : Nat) : Option X × Nat := if b then (none, p) else F p
def ifS (a b c : Option X) : Option X := match a, b, c with | some a, some b, some c => some (.mk 16 Vl.no Vl.mt [a, b, c]) | _, _, _ => none
def ifR (F : Nat → Option X × Nat) (L : List Lx.T) (p : Nat) : Option X × Nat :=
  let r1 := F (p + 1)
  let r2 := nx F (stB L [116, 104, 101, 110] r1) (stP L [116, 104, 101, 110] r1)
  let r3 := nx F (stB L [101, 108, 115, 101] r2) (stP L [101, 108, 115, 101] r2)
  (ifS r1.1 r2.1 r3.1, r3.2)
theorem nx_le {F : Nat → Option X × Nat} {n : Nat} (hF : ∀ q, q ≤ n → q ≤ (F q).2 ∧ (F q).2 ≤ n) (b : Bool) {q : Nat} (hq : q ≤ n) : q ≤ (nx F b q).2 ∧ (nx F b q).2 ≤ n := by
  cases b with
  | true => exact ⟨Nat.le_refl _, hq⟩
  | false => exact hF q hq
theorem stP_le {L : List Lx.T} (s : List UInt8) {r : Option X × Nat} (h : r.2 ≤ L.length) : r.2 ≤ stP L s r ∧ stP L s r ≤ L.length := by
  unfold stP
  split
  · exact ⟨Nat.le_refl _, h⟩
  · split
    · rename_i hi
      have hlt : r.2 < L.length := by
        rcases Nat.lt_or_ge r.2 L.length with hh | hh
        · exact hh
        · rw [toksOf_no hh] at hi; cases hi
      omega
    · exact ⟨Nat.le_refl _, h⟩
theorem ifS_none (F : Nat → Option X × Nat) (L : List Lx.T) (s s' : List UInt8) (r1 : Option X × Nat) : (ifS r1.1 (nx F (stB L s r1) (stP L s r1)).1 (nx F (stB L s' (nx F (stB L s r1) (stP L s r1))) (stP L s' (nx F (stB L s r1) (stP L s r1)))).1).isNone = (nx F (stB L s' (nx F (stB L s r1) (stP L s r1))) (stP L s' (nx F (stB L s r1) (stP L s r1)))).1.isNone := by
  have key : ∀ (r : Option X × Nat) (t : List UInt8), r.1 = none → (nx F (stB L t r) (stP L t r)).1 = none := fun r t h => by unfold nx stB; rw [h]; rfl
  generalize hr2 : nx F (stB L s r1) (stP L s r1) = r2
  generalize hr3 : nx F (stB L s' r2) (stP L s' r2) = r3
  have h12 : r1.1 = none → r2.1 = none := fun h => by rw [← hr2]; exact key r1 s h
  have h23 : r2.1 = none → r3.1 = none := fun h => by rw [← hr3]; exact key r2 s' h
  obtain ⟨o1, q1⟩ := r1
  obtain ⟨o2, q2⟩ := r2
  obtain ⟨o3, q3⟩ := r3
  simp only at h12 h23
  cases o1 with
  | none => rw [h23 (h12 rfl)]; rfl
  | some a => cases o2 with
    | none => rw [h23 rfl]; rfl
    | some b => cases o3 <;> rfl
end Sx
/-- the box of a part -/
def KBx (w wx : World) (M : Nat) (y : X) (a : Option Addr) (c : Nat) : Prop := RowV wx M 35 (xC y a c).toList ∧ XAt wx (fun j => w.heap.size < j) y a ∧ w.heap.size < M
section
variable {w wx wy : World} {R : Nat} {al : Option Addr} {cap : Nat} {L : List Lx.T} {p p' : Nat} {b b' : Bool} {M : Nat} {y : X} {a : Option Addr} {c : Nat}
theorem kbx_only (h : KBx w wx M y a c) (hR : R < w.heap.size) (ho : Only (fun k => k = R) wx wy) : KBx w wy M y a c :=
  ⟨rowV_only h.1 ho (by have := h.2.2; omega), xat_only ho (fun j hj e => by have hj2 : w.heap.size < j := hj; omega) y a h.2.1, h.2.2⟩
theorem kbx_below (h : KBx w wx M y a c) (hb : Below wx.heap.size wx wy) : KBx w wy M y a c :=
  ⟨rowV_below h.1 hb (rowV_lt h.1), xat_below h.2.1 hb, h.2.2⟩
abbrev l3 (y1 y2 y3 : X) (a1 a2 a3 : Option Addr) (s1 s2 s3 : Nat) : List Value := [.int .i64 y1.op, .int .i64 y1.v.kind, .int .i64 y1.v.n, .string y1.v.s, .string y1.s, .slice a1 y1.l.length s1, .int .i64 y2.op, .int .i64 y2.v.kind, .int .i64 y2.v.n, .string y2.v.s, .string y2.s, .slice a2 y2.l.length s2, .int .i64 y3.op, .int .i64 y3.v.kind, .int .i64 y3.v.n, .string y3.v.s, .string y3.s, .slice a3 y3.l.length s3]
end
end Go.Proofs.YtmkllibfblacfaaDoor

/-
  Layer 14: the document's reader of tokens: read, the levels of two.
-/
namespace Go.Proofs.YtmkllibfblacfaaDoor
open Go.RowKit
open Sx (X toksOf isT)
theorem wp_value14 {P : Program} {o : Oper} {a : Act} {w : World} {K : Act → World → Prop} {Q : Exit → Act → World → Prop} (v : Value) (w' : World) (hrun : (execOp a.eval o).run P w = .ok (.value v) w') (h : K (a.put o.dst v) w') : Oper.wp P o a w K Q := by
  unfold Oper.wp
  rw [hrun]
  exact h
abbrev l2 (x y : X) (a ay : Option Addr) (c cy : Nat) : List Value := [.int .i64 x.op, .int .i64 x.v.kind, .int .i64 x.v.n, .string x.v.s, .string x.s, .slice a x.l.length c, .int .i64 y.op, .int .i64 y.v.kind, .int .i64 y.v.n, .string y.v.s, .string y.s, .slice ay y.l.length cy]
theorem two_new (x y : X) (a ay : Option Addr) (c cy : Nat) (w : World) : Below w.heap.size w (w.alloc (.cells (l2 x y a ay c cy).toArray 35)) ∧ RowV (w.alloc (.cells (l2 x y a ay c cy).toArray 35)) w.heap.size 35 (l2 x y a ay c cy) ∧ (w.alloc (.cells (l2 x y a ay c cy).toArray 35)).heap.size = w.heap.size + 1 :=
  ⟨(Below.refl w.heap.size w).alloc (Nat.le_refl _) _, rowV_new w _ _, World.size_alloc _ _⟩
mutual
theorem xat_lt {w : World} {S : Nat → Prop} : ∀ (x : X) (ad : Option Addr), XAt w S x ad → XAt w (fun j => S j ∧ j < w.heap.size) x ad
  | .mk _ _ _ [], ad, _ => by rw [XAt]; exact .inl rfl
  | .mk _ _ _ (y :: r), ad, h => by
    rw [XAt] at h ⊢
    rcases h with h | ⟨b, o, h1, h2, h3⟩
    · cases h
    · have hb : b < w.heap.size := by
        rw [LAt] at h3
        obtain ⟨⟨a, c, hc, _⟩, _⟩ := h3
        exact World.block_lt_of_cell? _ _ hc.1
      exact .inr ⟨b, o, h1, ⟨h2, hb⟩, lat_lt (y :: r) b o h3⟩
theorem lat_lt {w : World} {S : Nat → Prop} : ∀ (l : List X) (b o : Nat), LAt w S l b o → LAt w (fun j => S j ∧ j < w.heap.size) l b o
  | [], _, _, _ => by rw [LAt]; trivial
  | x :: r, b, o, h => by
    rw [LAt] at h ⊢
    obtain ⟨⟨a, c, h1, h2⟩, h3⟩ := h
    exact ⟨⟨a, c, h1, xat_lt x a h2⟩, lat_lt r b (o + 6) h3⟩
end
/-- the box that a loop turns, and what stands in it -/
def KBm (w wx : World) (M : Nat) (y : X) (a : Option Addr) (c : Nat) : Prop := RowV wx M 35 (xC y a c).toList ∧ XAt wx (fun j => w.heap.size < j ∧ j ≠ M) y a ∧ w.heap.size < M
theorem kbm_only {w wx wy : World} {R M : Nat} {y : X} {a : Option Addr} {c : Nat} (h : KBm w wx M y a c) (hR : R < w.heap.size) (ho : Only (fun k => k = R) wx wy) : KBm w wy M y a c :=
  ⟨rowV_only h.1 ho (by have := h.2.2; omega), xat_only ho (fun j hj e => by have hj2 := hj.1; omega) y a h.2.1, h.2.2⟩
theorem kbm_below {w wx wy : World} {M : Nat} {y : X} {a : Option Addr} {c : Nat} (h : KBm w wx M y a c) (hb : Below wx.heap.size wx wy) : KBm w wy M y a c :=
  ⟨rowV_below h.1 hb (rowV_lt h.1), xat_below h.2.1 hb, h.2.2⟩
def posOf (w : World) (R : Nat) : Nat := match w.cell? ⟨R, 1, none⟩ with | some (.int _ p) => p.toNat | _ => 0
end Go.Proofs.YtmkllibfblacfaaDoor

/-
  Layer 14, the program's: the reader in memory, with what waits; an op that begins to wait.
-/
namespace Go.Proofs.YtmkllibfblacfaaDoor
open Go.RowKit
open Sx (X toksOf isT)
/-- an expression with where its list lies -/
abbrev Part14 := X × Option Addr × Nat
abbrev fX (y : Part14) : List Value := (xC y.1 y.2.1 y.2.2).toList
/-- an op that waits, in memory: its parts l, where they lie -/
structure Wb where
  op : Int
  lev : Nat
  a : Option Addr
  c : Nat
  l : List Part14
abbrev Wb.v (b : Wb) : Value := .slice b.a b.l.length b.c
abbrev fB (b : Wb) : List Value := [.int .i64 b.op, .slice b.a b.l.length b.c, .int .i64 (b.lev : Int)]
def toB (b : Wb) : Sx.B := ⟨b.op, b.l.map (·.1), b.lev⟩
theorem expr_parts : (Tryd.prog.info? 35).map (fun i => (i.zero, i.size, i.bytes)) = some (some (.agg #[.int .i64 0, .int .i64 0, .int .i64 0, .string ⟨#[]⟩, .string ⟨#[]⟩, .slice none 0 0]), 6, 80) := by kernel_rfl
theorem expr_elem : ElemOk Tryd.prog 35 6 80 := elemOk_of expr_parts rfl (by decide) (by decide)
theorem fX_one (y : Part14) : ∀ u ∈ fX y, u.oneCell' = true := by intro u hu; simp [fX] at hu; rcases hu with rfl | rfl | rfl | rfl | rfl | rfl <;> rfl
theorem fB_one (b : Wb) : ∀ u ∈ fB b, u.oneCell' = true := by intro u hu; simp [fB] at hu; rcases hu with rfl | rfl | rfl <;> rfl
/-- rows of unlike types lie apart -/
theorem owns_apart14 {w : World} {B B' n m E E' s s' : Nat} {v u : Value} {xs ys : List Value} (hE : E ≠ E') (h1 : w.ownsRow B E s v n xs) (h2 : w.ownsRow B' E' s' u m ys) : ∀ k, u.ownBlock = some k → ¬ v.ownBlock = some k := by
  intro k hu hv
  rcases h1.2 with ⟨rfl, _⟩ | ⟨g, cap, cur, rfl, _, hh, _⟩
  · cases hv
  · rcases h2.2 with ⟨rfl, _⟩ | ⟨g', cap', cur', rfl, _, hh', _⟩
    · cases hu
    · have e1 : g = k := by simpa [Value.ownBlock] using hv
      have e2 : g' = k := by simpa [Value.ownBlock] using hu
      subst e1 e2
      rw [hh] at hh'
      simp at hh'
      exact hE hh'.2
/-- what waits is well, in memory; S: the blocks of what was read -/
def WbOk (w : World) (B : Nat) (S : Nat → Prop) (b : Wb) : Prop :=
  OwL fX 35 6 w B b.v b.l ∧ (∀ y ∈ b.l, XAt w S y.1 y.2.1) ∧ (∀ j, b.v.ownBlock = some j → ¬ S j) ∧ (b.op = 0 ∨ b.op = 3 ∨ b.op = 16 ∨ (4 ≤ b.op ∧ b.op ≤ 15)) ∧ b.l.length ≤ 3 ∧ b.lev ≤ 7
abbrev rdC (al : Option Addr) (ll cap p lev : Nat) (wa : Option Addr) (wn wc : Nat) (y : X) (ay : Option Addr) (cy h : Nat) : List Value :=
  [.slice al ll cap, .int .i64 (p : Int), .int .i64 (lev : Int), .slice wa wn wc, .int .i64 y.op, .int .i64 y.v.kind, .int .i64 y.v.n, .string y.v.s, .string y.s, .slice ay y.l.length cy, .int .i64 (h : Int)]
/-- an unmarked row stays so -/
theorem um_only {F : Nat → Prop} {w w' : World} {j : Nat} (ho : Only F w w') (h : ∃ cs T, w.heap[j]? = some (.cells cs T (0, 0))) (hn : ¬ F j) : ∃ cs T, w'.heap[j]? = some (.cells cs T (0, 0)) := by
  obtain ⟨cs, T, h⟩ := h
  exact ⟨cs, T, (ho.block j (Array.getElem?_eq_some_iff.1 h).1 hn).trans h⟩
section
variable {w w' : World} {R B : Nat} {S : Nat → Prop} {al : Option Addr} {cap : Nat} {L : List Lx.T} {p lev : Nat} {wa : Option Addr} {wc : Nat} {ws : List Wb} {y : X} {ay : Option Addr} {cy h : Nat}
theorem wbOk_only {F : Nat → Prop} {b : Wb} (hk : WbOk w B S b) (ho : Only F w w') (hn : ∀ j, b.v.ownBlock = some j → ¬ F j) (hS : ∀ j, S j → ¬ F j) : WbOk w' B S b :=
  ⟨owL_only hk.1 ho hn, fun y hy => xat_only ho hS _ _ (hk.2.1 y hy), hk.2.2⟩
theorem wbOk_below {b : Wb} (hk : WbOk w B S b) (hb : Below w.heap.size w w') : WbOk w' B S b := wbOk_only hk (Only.of_none (F := fun _ => False) hb) (fun _ _ h => h) fun _ _ h => h
theorem toks_only {F : Nat → Prop} (hT : ReadsT13 w al L) (ha : L = [] ∨ ∀ b, al = some b → b.block < R) (ho : Only F w w') (hF : ∀ k, k < R → ¬ F k) : ReadsT13 w' al L := by
  rcases ha with e | e
  · subst e; exact readsT13_none _ _
  · exact readsT13_only hT ho fun b hb => hF _ (e b hb)
end
-- begin, by program
end Go.Proofs.YtmkllibfblacfaaDoor

/-
  Layer 14, the program's: what begins ahead of its parts; a value or a name.
-/
namespace Go.Proofs.YtmkllibfblacfaaDoor
open Go.RowKit
open Sx (X toksOf isT)
theorem wb_empty (w : World) (B : Nat) (S : Nat → Prop) (op : Int) (lev : Nat) (ho : op = 0 ∨ op = 3 ∨ op = 16 ∨ (4 ≤ op ∧ op ≤ 15)) (hl : lev ≤ 7) : WbOk w B S ⟨op, lev, none, 0, []⟩ :=
  ⟨owL_nil _, fun y hy => (by cases hy), fun j e => (by cases e), ho, Nat.zero_le _, hl⟩
section
variable {w : World} {R B : Nat} {S : Nat → Prop} {al : Option Addr} {cap : Nat} {L : List Lx.T} {p lev : Nat} {wa : Option Addr} {wc : Nat} {ws : List Wb} {y : X} {ay : Option Addr} {cy h : Nat}
theorem leaf_flat {t : Lx.T} {x : X} (h : Sx.leaf t = some x) : x.l = [] := by
  unfold Sx.leaf at h
  repeat' split at h
  all_goals first | (cases h; rfl) | (cases h)
theorem leaf_tok (L : List Lx.T) (p : Nat) : Sx.leaf (Sx.tokAt L p) = Sx.leafO (toksOf L p) := by
  unfold Sx.tokAt toksOf Sx.leafO
  cases L[p]? with
  | none => rfl
  | some t => rfl
theorem xat_flat (w : World) (S : Nat → Prop) {x : X} (h : x.l = []) (a : Option Addr) : XAt w S x a := by
  obtain ⟨_, _, _, l⟩ := x
  rw [XAt]; exact .inl h
theorem tokAt_size {L : List Lx.T} (hL : ∀ t ∈ L, t.s.size ≤ 1000000) (p : Nat) : (Sx.tokAt L p).s.size ≤ 1000000 := by
  unfold Sx.tokAt
  cases hp : L[p]? with
  | none => exact Nat.zero_le _
  | some t => exact hL t (List.mem_of_getElem? hp)
end
end Go.Proofs.YtmkllibfblacfaaDoor

/-
  Layer 14, the program's: an op of two that begins; what must stand behind a part.
-/
namespace Go.Proofs.YtmkllibfblacfaaDoor
open Go.RowKit
open Sx (X toksOf isT)
/-- a list of one, in a row that was just made -/
theorem owL_one {α : Type} {f : α → List Value} {E k g B : Nat} {w : World} {y : α} (h : RowV w g E (f y)) (hB : B ≤ g) (hk : (f y).length = k) : OwL f E k w B (.slice (some ⟨g, 0, none⟩) 1 1) [y] := by
  have e : [y].flatMap f = f y := by simp
  refine ⟨by rw [e, hk]; simp, .inr ⟨g, 1, (f y).toArray, rfl, hB, h, Nat.le_refl _, by unfold maxLen; omega, by rw [List.size_toArray, hk, Nat.one_mul], ?_⟩⟩
  rw [e, List.length_singleton, Nat.one_mul, ← hk, List.take_length]
theorem flat_store {α : Type} {f : α → List Value} {k : Nat} (hf : ∀ x, (f x).length = k) {j : Nat} (hj : j < k) (u : Value) (y' : α) : ∀ (l : List α) (i : Nat) (hi : i < l.length), f y' = (f l[i]).set j u → (l.flatMap f).set (i * k + j) u = (l.set i y').flatMap f
  | [], i, hi, _ => by simp at hi
  | x :: l, 0, _, h => by
    rw [List.flatMap_cons, List.set_cons_zero, List.flatMap_cons, h, Nat.zero_mul, Nat.zero_add, List.set_append_left _ _ (by rw [hf]; exact hj)]; rfl
  | x :: l, i + 1, hi, h => by
    have ih := flat_store hf hj u y' l i (by simpa using hi) h
    rw [List.flatMap_cons, List.set_cons_succ, List.flatMap_cons, ← ih, List.set_append_right _ _ (by rw [hf, Nat.add_mul]; omega), hf]
    congr 2
    rw [Nat.add_mul]; omega
/-- a cell of an element of a list that the call owns, written -/
theorem owL_store {α : Type} {f : α → List Value} {E k B : Nat} {w : World} {v : Value} {l : List α} (hf : ∀ x, (f x).length = k) (h : OwL f E k w B v l) (i : Nat) (hi : i < l.length) {j : Nat} (hj : j < k) (u : Value) (y' : α) (hy : f y' = (f l[i]).set j u) :
    ∃ g c, v = .slice (some ⟨g, 0, none⟩) l.length c ∧ v.ownBlock = some g ∧ OwL f E k (w.setCell ⟨g, i * k + j, none⟩ u) B v (l.set i y') ∧ Only (fun k => k = g) w (w.setCell ⟨g, i * k + j, none⟩ u) := by
  rcases h.2 with ⟨_, h0⟩ | ⟨g, cap, cur, rfl, hb, hh, u1, u2, u3, u4⟩
  · omega
  · have hrow : RowV w g E cur.toList := hh
    have hr2 := rowV_stored hrow (i * k + j) u
    have hlt : i * k + j < l.length * k := by
      have := Nat.mul_le_mul_right k (show i + 1 ≤ l.length from hi)
      rw [Nat.add_mul, Nat.one_mul] at this; omega
    refine ⟨g, cap, rfl, rfl, ⟨?_, .inr ⟨g, cap, (cur.toList.set (i * k + j) u).toArray, by rw [List.length_set], hb, hr2, by rw [List.length_set]; exact u1, u2, ?_, ?_⟩⟩, Only.setCell (F := fun k => k = g) (Only.refl _ _) (fun _ => rfl) _⟩
    · rw [← flat_store hf hj u y' l i hi hy, List.length_set, List.length_set]
      exact h.1
    · rw [List.size_toArray, List.length_set, Array.length_toList]; exact u3
    · rw [List.length_set, ← flat_store hf hj u y' l i hi hy, List.take_set, u4]
theorem flat_len14 {α : Type} {f : α → List Value} {k : Nat} (hf : ∀ x, (f x).length = k) : ∀ l : List α, (l.flatMap f).length = l.length * k
  | [] => by simp
  | x :: l => by rw [List.flatMap_cons, List.length_append, hf, flat_len14 hf l, List.length_cons, Nat.add_mul]; omega
/-- without its last -/
theorem owL_pop {α : Type} {f : α → List Value} {E k B n c : Nat} {w : World} {a : Option Addr} {l : List α} {y : α} (hf : ∀ x, (f x).length = k) (h : OwL f E k w B (.slice a (n + 1) c) (l ++ [y])) (hn : l.length = n) : OwL f E k w B (.slice a n c) l := by
  rcases h.2 with ⟨e, _⟩ | ⟨g, cap, cur, e, hb, hh, u1, u2, u3, u4⟩
  · cases e
  · injection e with e1 e2 e3
    subst e1 e3
    have hl2 : (l ++ [y]).length = l.length + 1 := by simp
    have hlen : (l.flatMap f).length = l.length * k := flat_len14 hf l
    refine ⟨hlen, .inr ⟨g, c, cur, by rw [hn], hb, hh, by rw [hl2] at u1; omega, u2, u3, ?_⟩⟩
    rw [List.flatMap_append] at u4
    have := congrArg (List.take (l.length * k)) u4
    rw [List.take_take, hl2, Nat.min_eq_left (by rw [Nat.add_mul]; omega), List.take_append_of_le_length (by rw [hlen]; exact Nat.le_refl _), ← hlen, List.take_length] at this
    rw [← hlen]; exact this
section
variable {w : World} {R B : Nat} {S : Nat → Prop} {al : Option Addr} {cap : Nat} {L : List Lx.T} {p lev : Nat} {wa : Option Addr} {wc : Nat} {ws : List Wb} {y : X} {ay : Option Addr} {cy h : Nat}
end
/-- the text that must stand behind a part -/
def askS (b : Sx.B) : ByteArray := match Sx.askW b with | some (_, s) => Lx.mk s | none => ⟨#[]⟩
end Go.Proofs.YtmkllibfblacfaaDoor

/-
  A region that draws its order, walked in a plan of two stages: behind the first stage, for which all the others wait, another condition on the world holds. One walk.
-/
namespace Go.Proofs.YtmkllibfblacfaaDoor
open Go.RowKit
section
variable {P : Program} {ops : Array Oper} {md : Region.Mode} {S : World → Prop} {Q : Exit → Act → World → Prop}
/-- each operation behind n waits for one from n on -/
def treeB (md : Region.Mode) (ops : Array Oper) (n : Nat) : Bool :=
  (List.range ops.size).all fun t => decide (t ≤ n) || (List.range t).any fun u => decide (n ≤ u) && Region.waitsFor md ops t u
theorem tail_waits2 {n : Nat} {listed : Array Bool} (hs : Region.sinkB md ops n = true) (hc : treeB md ops n = true) (hn : n < ops.size) (inv : HeadInv md ops n listed) :
    ∀ (i : Nat), i < n → listed.getD i true = false → ∀ t, n ≤ t → t ∉ Region.ready md ops listed := by
  have hun : ∀ u, n ≤ u → u < ops.size → listed.getD u false = false := fun u h1 h2 => getD_both (inv.tail u h1 h2)
  have atn : ∀ (d i : Nat), n - i = d → i < n → listed.getD i true = false → n ∉ Region.ready md ops listed := by
    intro d
    induction d using Nat.strongRecOn with
    | _ d ih =>
      intro i hd hi hui hr
      obtain ⟨_, ot, hot, hall⟩ := mem_ready.1 hr
      obtain ⟨j, hj, hj2⟩ := List.any_eq_true.1 (List.all_eq_true.1 hs i (List.mem_range.2 hi))
      simp only [Bool.and_eq_true, decide_eq_true_eq] at hj2
      obtain ⟨oj, hoj, e, he, hb, hon⟩ := Region.waitsFor_spec hj2.2
      have hjle := List.mem_range.1 hj
      by_cases hjt : j = n
      · subst hjt
        obtain rfl : oj = ot := Option.some.inj (hoj.symm.trans hot)
        have h2 := hall e he hb
        rw [hon, getD_both hui] at h2
        cases h2
      · cases hl : listed.getD j false with
        | true =>
          have h2 := inv.closed j oj hoj hl e he hb
          rw [hon, getD_both hui] at h2
          cases h2
        | false =>
          exact ih (n - j) (by omega) j rfl (by omega) (getD_in (by rw [inv.size]; omega) hl) hr
  intro i hi hui t ht hr
  by_cases htn : t = n
  · subst htn; exact atn _ i rfl hi hui hr
  · obtain ⟨_, ot, hot, hall⟩ := mem_ready.1 hr
    have htlt : t < ops.size := (Array.getElem?_eq_some_iff.1 hot).1
    have h1 := List.all_eq_true.1 hc t (List.mem_range.2 htlt)
    rw [Bool.or_eq_true] at h1
    rcases h1 with h1 | h1
    · have := of_decide_eq_true h1; omega
    · obtain ⟨u, hu, hu2⟩ := List.any_eq_true.1 h1
      simp only [Bool.and_eq_true, decide_eq_true_eq] at hu2
      obtain ⟨oj, hoj, e, he, hb, hon⟩ := Region.waitsFor_spec hu2.2
      obtain rfl : oj = ot := Option.some.inj (hoj.symm.trans hot)
      have h2 := hall e he hb
      have hult := List.mem_range.1 hu
      rw [hon, hun u hu2.1 (by omega)] at h2
      cases h2
theorem headH_first2 {n i : Nat} {oi : Oper} {v : Value} {L : Array Bool → Act → World → Prop} (hi : ops[i]? = some oi) (hsel : ∀ (j : Nat) (o : Oper) cs b, ops[j]? = some o → o.op ≠ .select cs b)
    (hQ : ∀ c a w, Q (.panic c) (a.put oi.dst v) w → Q (.panic c) a w)
    (htw : ∀ listed, HeadInv md ops n listed → ∀ i, i < n → listed.getD i true = false → ∀ t, n ≤ t → t ∉ Region.ready md ops listed) (hin : i < n) (hdone : ∀ listed a w, L listed a w → ∀ j ∈ Region.ready md ops listed, n ≤ j) :
    ∀ (f : Nat) (listed : Array Bool) (a : Act) (w : World), HeadInv md ops n listed →
      (∀ j oj, ops[j]? = some oj → j ≠ i → listed.getD j true = false → (∀ e ∈ oj.after, Region.binds md e = true → e.on ≠ i) → oi.apart ops oj = true) →
      i ∈ Region.ready md ops listed → YieldsIf P ops S oi v a → S w → HeadH P md ops S Q n L f (listed.setIfInBounds i true) (a.put oi.dst v) w → HeadH P md ops S Q n L (f + 1) listed a w := by
  intro f
  induction f with
  | zero =>
    intro listed a w inv _ hr hy hS H
    have hun := (mem_ready.1 hr).1
    refine ⟨fun h => (by rw [h] at hr; cases hr), fun j hj => ?_⟩
    have hjn : j < n := Nat.lt_of_not_le fun h => absurd hj (htw _ inv i hin hun j h)
    refine ⟨hjn, ?_⟩
    by_cases hji : j = i
    · subst hji; exact hy.wpOp hi hS ⟨hS, H⟩
    · have := hdone _ _ _ H j (ready_mono hj hji)
      omega
  | succ f ih =>
    intro listed a w inv hfree hr hy hS H
    have hun := (mem_ready.1 hr).1
    refine ⟨fun h => (by rw [h] at hr; cases hr), fun j hj => ?_⟩
    have hjn : j < n := Nat.lt_of_not_le fun h => absurd hj (htw _ inv i hin hun j h)
    refine ⟨hjn, ?_⟩
    by_cases hji : j = i
    · subst hji; exact hy.wpOp hi hS ⟨hS, H⟩
    · have h1 := (H.2 j (ready_mono hj hji)).2
      obtain ⟨hjun, oj, hoj, hall⟩ := mem_ready.1 hj
      have hnot : ∀ e ∈ oj.after, Region.binds md e = true → e.on ≠ i := fun e he hb heq => by
        have h2 := hall e he hb
        rw [heq, getD_both hun] at h2
        cases h2
      have h2 := wpOp_putIf hoj (hfree j oj hoj hji hjun hnot) (fun cs b => hsel i oi cs b hi) (fun cs b => hsel j oj cs b hoj) hQ hy h1
      refine wpOp_mono (fun a' w' h3 => ⟨h3.2.1, ih (listed.setIfInBounds j true) a' w' (inv.set hj hjn) (fun k ok hk hki hunk hno => hfree k ok hk hki ?_ hno) (ready_mono hr (Ne.symm hji)) h3.1 h3.2.1 ?_⟩) h2
      · by_cases hjk : j = k
        · subst hjk; exact hjun
        · rw [getD_set_ne true hjk] at hunk; exact hunk
      · rw [Array.setIfInBounds_comm _ _ hji]
        exact h3.2.2
/-- the first stage's plan, with what is listed behind it -/
def planT (md : Region.Mode) (ops : Array Oper) (n : Nat) (T : Array Bool) : List (Bool × Nat) → Array Bool → Bool
  | [], listed => decide (listed = T)
  | (true, i) :: r, listed => decide (i < n) && (Region.ready md ops listed).contains i && Region.free md ops listed i && planT md ops n T r (listed.setIfInBounds i true)
  | (false, i) :: r, listed => decide (i < n) && decide (Region.ready md ops listed = [i]) && planT md ops n T r (listed.setIfInBounds i true)
theorem headH_planT {n : Nat} {T : Array Bool} {R : Act → World → Prop} (hsel : Region.noSelect ops = true) (hQ : ∀ c (d : Option Tmp) v a w, Q (.panic c) (a.put d v) w → Q (.panic c) a w)
    (htw : ∀ listed, HeadInv md ops n listed → ∀ i, i < n → listed.getD i true = false → ∀ t, n ≤ t → t ∉ Region.ready md ops listed) (hT : ∀ j ∈ Region.ready md ops T, n ≤ j) :
    ∀ (pl : List (Bool × Nat)) (listed : Array Bool) (a : Act) (w : World), HeadInv md ops n listed → planT md ops n T pl listed = true → S w → wpPlan P ops S Q R pl a w →
    HeadH P md ops S Q n (fun listed' a' w' => listed' = T ∧ HeadInv md ops n listed' ∧ R a' w') pl.length listed a w
  | [], listed, a, w, inv, hB, _, h => ⟨of_decide_eq_true hB, inv, h⟩
  | (true, i) :: r, listed, a, w, inv, hB, hS, h => by
    simp only [planT, Bool.and_eq_true, decide_eq_true_eq] at hB
    obtain ⟨⟨⟨hin, hr⟩, hf⟩, hB'⟩ := hB
    have hr' : i ∈ Region.ready md ops listed := by simpa using hr
    obtain ⟨o, v, h0, hy, hK⟩ := h
    rw [List.length_cons]
    exact headH_first2 h0 (Region.noSelect_spec hsel) (fun c a w => hQ c o.dst v a w) htw hin (fun listed' a' w' hL => by rw [hL.1]; exact hT) r.length listed a w inv (Region.free_spec h0 hf) hr' hy hS
      (headH_planT hsel hQ htw hT r _ _ w (inv.set hr' hin) hB' hS hK)
  | (false, i) :: r, listed, a, w, inv, hB, hS, h => by
    simp only [planT, Bool.and_eq_true, decide_eq_true_eq] at hB
    obtain ⟨⟨hin, hr⟩, hB'⟩ := hB
    have hr' : i ∈ Region.ready md ops listed := by rw [hr]; simp
    rw [List.length_cons]
    refine ⟨fun h0 => (by rw [h0] at hr; cases hr), fun j hj => ?_⟩
    rw [hr] at hj
    obtain rfl : j = i := by simpa using hj
    exact ⟨hin, wpOp_mono (fun a' w' h3 => ⟨h3.1, headH_planT hsel hQ htw hT r _ _ _ (inv.set hr' hin) hB' h3.1 h3.2⟩) h⟩
theorem wp_region_plan2 {id : Nat} {a : Act} {w : World} {l : List Oper} {S2 : World → Prop} (n m : Nat) (pl pl2 : List (Bool × Nat)) (T : Array Bool) (hm : P.follows .mixedOrders = true) (hQ : ∀ c (d : Option Tmp) v a w, Q (.panic c) (a.put d v) w → Q (.panic c) a w)
    (hB : (Region.noSelect l.toArray && decide (n ≤ m) && decide (m < l.toArray.size) && decide (pl.length = n) && decide (pl.length + pl2.length = m) && Region.sinkB .any l.toArray n && treeB .any l.toArray n && Region.sinkB .any l.toArray m && Region.chainB .any l.toArray m && planT .any l.toArray n T pl (Array.replicate l.toArray.size false) && (Region.ready .any l.toArray T).all (fun j => decide (n ≤ j)) && planB .any l.toArray (l.toArray.size - m) m pl2 T) = true) (hS : S w.drew)
    (h : wpPlan P l.toArray S Q (fun a' w' => S2 w' ∧ wpPlan P l.toArray S2 Q (fun a'' w'' => wpList P l.toArray Q (l.drop m) a'' w'') pl2 a' w') pl a w.drew) : (Code.region id l.toArray true).wp P Q a w := by
  simp only [Bool.and_eq_true, decide_eq_true_eq] at hB
  obtain ⟨⟨⟨⟨⟨⟨⟨⟨⟨⟨⟨hsel, hnm⟩, hmz⟩, hpl⟩, hpl2⟩, hs⟩, ht⟩, hs2⟩, hc2⟩, hplan⟩, hT⟩, hplan2⟩ := hB
  have hT' : ∀ j ∈ Region.ready .any l.toArray T, n ≤ j := fun j hj => of_decide_eq_true (List.all_eq_true.1 hT j hj)
  have hml : m < l.length := by simpa using hmz
  have hdl : (l.drop m).length = l.toArray.size - m := by simp
  have inv0 : HeadInv .any l.toArray n (Array.replicate l.toArray.size false) :=
    ⟨by simp, fun j oj _ hl => (by rw [getD_replicate_false] at hl; cases hl), fun t _ ht => getD_in (by simpa using ht) (getD_replicate_false _ _)⟩
  have H := headH_planT (md := .any) hsel hQ (fun listed inv i hi hu => tail_waits2 hs ht (by omega) inv i hi hu) hT' pl _ a w.drew inv0 hplan hS h
  refine wp_region_any hm ?_
  have := headH_any (g := pl2.length + (l.toArray.size - m)) (fun listed' a' w' hL => by
    obtain ⟨hLT, hinv, hS2, h2⟩ := hL
    subst hLT
    have inv2 : HeadInv .any l.toArray m listed' := ⟨hinv.size, hinv.closed, fun t h1 h2 => hinv.tail t (by omega) h2⟩
    have H2 := headH_plan (md := .any) (g := l.toArray.size - m) hsel hQ hs2 hc2 hmz pl2 _ a' w' inv2 hplan2 hS2 h2
    exact headH_any (g := l.toArray.size - m) (fun listed'' a'' w'' hL2 => by
      have := wpAny_of_seq (md := .any) (Q' := Q) (l.drop m) m listed'' a'' w'' (fun j => by simp [List.getElem?_drop]) (by rw [hdl]; exact hL2.1) hL2.2
      rwa [hdl] at this) _ _ _ _ H2) _ _ _ _ H
  rw [← Nat.add_assoc, hpl2, show m + (l.toArray.size - m) = l.toArray.size by omega] at this
  exact this
end
end Go.Proofs.YtmkllibfblacfaaDoor
