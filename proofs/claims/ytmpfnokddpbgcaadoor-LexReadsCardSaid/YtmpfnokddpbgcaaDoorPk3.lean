/-
  Texts of the layers, part 3: ValText, StrJoin.
-/
import Derived.Test.YtmpfnokddpbgcaaDoorPk2
import Derived.Shelf.Strings.OnBuilder
import Derived.Test.YtmpfnokddpbgcaaDoorPk1
import Derived.Test.YtmpfnokddpbgcaaDoorProg
import Derived.WalkKit
/-
  Layer 12: a value's text, the program's and the document's.
-/
namespace Go.Proofs.YtmpfnokddpbgcaaDoor
open Go.RowKit
/-- a value's box, behind whatever was made since -/
theorem box12_at (v : Vl.V) {w w1 : World} (hb : Below (w.alloc (.cells (valC v) 67)).heap.size (w.alloc (.cells (valC v) 67)) w1) :
    w1.cell? ⟨w.heap.size, 0, none⟩ = some (.int .i64 v.kind) ∧ w1.cell? ⟨w.heap.size, 1, none⟩ = some (.int .i64 v.n) ∧ w1.cell? ⟨w.heap.size, 2, none⟩ = some (.string v.s) ∧ Below w.heap.size w w1 := by
  have hlt : w.heap.size < (w.alloc (.cells (valC v) 67)).heap.size := by rw [World.size_alloc]; omega
  have hc := fun (j : Nat) => hb.cell (p := ⟨w.heap.size, j, none⟩) hlt
  refine ⟨(hc 0).trans ?_, (hc 1).trans ?_, (hc 2).trans ?_, below_box _ hb⟩
  · rw [World.cell?_alloc_at _ _ _ _ rfl]; rfl
  · rw [World.cell?_alloc_at _ _ _ _ rfl]; rfl
  · rw [World.cell?_alloc_at _ _ _ _ rfl]; rfl
/-- what Text tells -/
def textB (v : Vl.V) : ByteArray := if Vl.right v then Vl.text v else Vl.mt
theorem text_bad {v : Vl.V} (h : ¬ Vl.right v) : textB v = Vl.mt := if_neg h
theorem text_ok {v : Vl.V} (h : Vl.right v) : textB v = Vl.text v := if_pos h
theorem boolL_eq (n : Int) (h : n = 0 ∨ n = 1) : (if (n != 0) = true then (⟨#[116, 114, 117, 101]⟩ : ByteArray) else ⟨#[102, 97, 108, 115, 101]⟩) = ⟨(Vl.boolL n).toArray⟩ := by
  rcases h with rfl | rfl <;> rfl
set_option maxRecDepth 100000 in
set_option maxHeartbeats 3200000 in
theorem text12_any (v : Vl.V) (h0 : -9223372036854775808 ≤ v.n) (h1 : v.n ≤ 9223372036854775807) (w : World) (ht : Pow10 w) :
    Calls Tryd.prog 42 #[valV v] w fun e w' => e = .returned (.tuple #[.string (textB v), .int .i64 (checkE v)]) ∧ Below w.heap.size w w' := by
  have cC := check12_any v
  have HB := Lib.hid fun (w1 : World) (hb : Below (w.alloc (.cells (valC v) 67)).heap.size (w.alloc (.cells (valC v) 67)) w1) => box12_at v hb
  by_cases hr : Vl.right v
  · have hE := checkE_ok hr
    rw [hE] at cC ⊢
    rw [text_ok hr]
    obtain ⟨k, n, s⟩ := v
    have HC := Lib.hid cC
    clear cC hE
    have HT := Lib.hid ht
    rcases hr with ⟨hk, hn, hs⟩ | ⟨hk, hs⟩ | ⟨hk, hn, hs⟩ | ⟨hk, hn, hs⟩
    · simp only at hk hn hs
      subst hk hn hs
      go_enter Tryd.func42, Tryd.ntmps42
      go_wp2_with fail
      refine (HC.out _).mono ?_
      rintro e w1 ⟨rfl, hb1⟩
      obtain ⟨r0, r1, r2, hbb⟩ := HB.out w1 hb1
      have H1 := Lib.hid hbb
      clear hb1 hbb
      go_wp2_with fail
      go_ret2
      exact ⟨rfl, H1.out⟩
    · simp only at hk hs
      subst hk hs
      go_enter Tryd.func42, Tryd.ntmps42
      go_wp2_with fail
      refine (HC.out _).mono ?_
      rintro e w1 ⟨rfl, hb1⟩
      obtain ⟨r0, r1, r2, hbb⟩ := HB.out w1 hb1
      have H1 := Lib.hid hbb
      clear hb1 hbb
      go_wp2_with fail
      refine (itoa_any n h0 h1 w1 (pow10_below HT.out H1.out)).mono ?_
      rintro e w2 ⟨rfl, hb2⟩
      have H2 := Lib.hid (H1.out.trans (hb2.mono H1.out.size))
      clear hb2
      go_wp2_with fail
      go_ret2
      exact ⟨rfl, H2.out⟩
    · simp only at hk hn hs
      subst hk hn
      go_enter Tryd.func42, Tryd.ntmps42
      go_wp2_with fail
      refine (HC.out _).mono ?_
      rintro e w1 ⟨rfl, hb1⟩
      obtain ⟨r0, r1, r2, hbb⟩ := HB.out w1 hb1
      have H1 := Lib.hid hbb
      clear hb1 hbb
      go_wp2_with fail
      refine (quoted_any s hs w1).mono ?_
      rintro e w2 ⟨rfl, hb2⟩
      have H2 := Lib.hid (H1.out.trans (hb2.mono H1.out.size))
      clear hb2
      go_wp2_with fail
      go_ret2
      exact ⟨rfl, H2.out⟩
    · simp only at hk hn hs
      subst hk hs
      have HF := Lib.hid (boolL_eq n hn)
      go_enter Tryd.func42, Tryd.ntmps42
      go_wp2_with fail
      refine (HC.out _).mono ?_
      rintro e w1 ⟨rfl, hb1⟩
      obtain ⟨r0, r1, r2, hbb⟩ := HB.out w1 hb1
      have H1 := Lib.hid hbb
      clear hb1 hbb
      go_wp2_with fail
      refine (formatBool_any _ w1).mono ?_
      rintro e w2 ⟨rfl, hw2⟩
      obtain rfl := hw2.symm
      clear hw2
      rw [HF.out]
      go_wp2_with fail
      go_ret2
      exact ⟨rfl, H1.out⟩
  · have hE := checkE_bad hr
    rw [hE] at cC ⊢
    rw [text_bad hr]
    have HC := Lib.hid cC
    clear cC hE hr ht
    go_enter Tryd.func42, Tryd.ntmps42
    go_wp2_with fail
    refine (HC.out _).mono ?_
    rintro e w1 ⟨rfl, hb1⟩
    obtain ⟨r0, r1, r2, hbb⟩ := HB.out w1 hb1
    have H1 := Lib.hid hbb
    clear hb1 hbb
    go_wp2_with fail
    go_ret2
    exact ⟨rfl, H1.out⟩
end Go.Proofs.YtmpfnokddpbgcaaDoor

/-
  strings.Join: the library's contract at this program's own numbers.
-/
namespace Go.Proofs
open Go.Shelf
def Tryd.sjo_ren : Go.Shelf.Ren := ⟨fun | 156 => 22 | 165 => 39 | 166 => 40 | 169 => 41 | 240 => 53 | 241 => 54 | 276 => 62 | 277 => 63 | n => n, fun | 0 => 0 | 3 => 3 | 4 => 4 | 5 => 5 | 9 => 9 | 20 => 20 | 31 => 46 | 37 => 55 | 70 => 54 | 72 => 57 | 75 => 60 | 76 => 61 | 80 => 63 | 127 => 73 | 164 => 77 | n => n, fun | n => n⟩
theorem Tryd.sjo156 : Go.Proofs.Lays.n156 Tryd.prog Tryd.sjo_ren := {
  mixed := by kernel_rfl
  f156 := Tryd.func22.trans (congrArg some (by kernel_rfl))
  f165 := Tryd.func39.trans (congrArg some (by kernel_rfl))
  f166 := Tryd.func40.trans (congrArg some (by kernel_rfl))
  f169 := Tryd.func41.trans (congrArg some (by kernel_rfl))
  f240 := Tryd.func53.trans (congrArg some (by kernel_rfl))
  f241 := Tryd.func54.trans (congrArg some (by kernel_rfl))
  f276 := Tryd.func62.trans (congrArg some (by kernel_rfl))
  f277 := Tryd.func63.trans (congrArg some (by kernel_rfl))
  t0 := Tryd.underlying0
  a0 := Tryd.isAgg0
  z0 := Tryd.sizeOf0
  v0 := Tryd.zeroValue0
  t3 := Tryd.underlying3
  a3 := Tryd.isAgg3
  z3 := Tryd.sizeOf3
  v3 := Tryd.zeroValue3
  t4 := Tryd.underlying4
  a4 := Tryd.isAgg4
  z4 := Tryd.sizeOf4
  v4 := Tryd.zeroValue4
  t9 := Tryd.underlying9
  a9 := Tryd.isAgg9
  z9 := Tryd.sizeOf9
  v9 := Tryd.zeroValue9
  t20 := Tryd.underlying20
  a20 := Tryd.isAgg20
  z20 := Tryd.sizeOf20
  v20 := Tryd.zeroValue20
  t31 := Tryd.underlying46
  a31 := Tryd.isAgg46
  z31 := Tryd.sizeOf46
  v31 := Tryd.zeroValue46
  t37 := Tryd.underlying55
  a37 := Tryd.isAgg55
  z37 := Tryd.sizeOf55
  v37 := Tryd.zeroValue55
  t70 := Tryd.underlying54
  a70 := Tryd.isAgg54
  z70 := Tryd.sizeOf54
  v70 := Tryd.zeroValue54
  t72 := Tryd.underlying57
  a72 := Tryd.isAgg57
  z72 := Tryd.sizeOf57
  v72 := Tryd.zeroValue57
  t75 := Tryd.underlying60
  a75 := Tryd.isAgg60
  z75 := Tryd.sizeOf60
  v75 := Tryd.zeroValue60
  t76 := Tryd.underlying61
  a76 := Tryd.isAgg61
  z76 := Tryd.sizeOf61
  v76 := Tryd.zeroValue61
  t127 := Tryd.underlying73
  a127 := Tryd.isAgg73
  z127 := Tryd.sizeOf73
  v127 := Tryd.zeroValue73
  t164 := Tryd.underlying77
  a164 := Tryd.isAgg77
  z164 := Tryd.sizeOf77
  v164 := Tryd.zeroValue77 }
theorem Tryd.sjoExtra : Builder.Extra Tryd.prog Tryd.sjo_ren := {
  sizeBuilder := by kernel_rfl
  liesBuilder := by kernel_rfl
  t5 := Tryd.underlying5
  a5 := Tryd.isAgg5
  z5 := Tryd.sizeOf5
  v5 := Tryd.zeroValue5
  infoByte := by kernel_rfl
  cellsByte := by kernel_rfl
  sizeByte := by kernel_rfl
  neB5 := by decide }
namespace YtmpfnokddpbgcaaDoor
open Go.RowKit
theorem strJoin_any (a : Option Addr) (l : List ByteArray) (c : Nat) (sep : ByteArray) (w : World) (hr : ReadsS w a l) (hc : l.length ≤ c) (hN : l.length ≤ 140737488355328) (hlen : (Lib.join (l.map (·.data.toList)) sep.data.toList).length ≤ 140737488355328) :
    Calls Tryd.prog 22 #[.slice a l.length c, .string sep] w fun e w' => e = .returned (.string ⟨(Lib.join (l.map (·.data.toList)) sep.data.toList).toArray⟩) ∧ Below w.heap.size w w' := by
  cases l with
  | nil => exact (Any.strings_Join_none Tryd.sjo156 Tryd.sjoExtra a c sep w).mono fun e w' ⟨he, hw⟩ => ⟨by rw [he]; rfl, hw ▸ Below.refl _ _⟩
  | cons x r =>
    obtain ⟨b, off, rfl, h0⟩ := hr 0 (by simp)
    refine Any.strings_Join Tryd.sjo156 Tryd.sjoExtra b off c (x :: r) sep w (fun j y hy => ?_) (World.block_lt_of_cell? _ _ h0) hN hc hlen
    obtain ⟨hj, rfl⟩ := List.getElem?_eq_some_iff.1 hy
    obtain ⟨b', o', he, hcell⟩ := hr j hj
    simp only [Option.some.injEq, Addr.mk.injEq] at he
    obtain ⟨rfl, rfl, _⟩ := he
    exact hcell
end YtmpfnokddpbgcaaDoor
end Go.Proofs
