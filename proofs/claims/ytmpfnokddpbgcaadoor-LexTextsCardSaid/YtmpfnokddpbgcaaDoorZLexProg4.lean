/-
  Layer 13, the program's: marks.
-/
import Derived.Test.YtmpfnokddpbgcaaDoorZLexProg3
import Derived.Test.YtmpfnokddpbgcaaDoorZLexOne
namespace Go.Proofs.YtmpfnokddpbgcaaDoor
open Go.RowKit
set_option maxRecDepth 100000 in
theorem mark13_fn (m s : ByteArray) (g : Nat) (w : World) (hc : w.cell? ⟨g, 0, none⟩ = some (.string s)) :
    Calls Tryd.prog 51 #[.string m, .pointer (some ⟨g, 0, none⟩)] w fun e w' => e = .returned (.bool (m.data.toList.isPrefixOf s.data.toList)) ∧ w' = w := by
  have cH := hasPre_any s m w
  generalize m.data.toList.isPrefixOf s.data.toList = B at *
  have H := Lib.hid cH
  clear cH
  go_enter Tryd.func51, Tryd.ntmps51
  go_wp2_with fail
  refine H.out.mono ?_
  rintro e w1 ⟨rfl, rfl⟩
  go_wp2_with fail
  go_ret
  exact ⟨rfl, rfl⟩
set_option maxRecDepth 100000 in
set_option maxHeartbeats 3200000 in
theorem marks13_any (w : World) : Calls Tryd.prog 49 #[] w fun e w' => e = .returned (.slice (some ⟨w.heap.size, 0, none⟩) 16 16) ∧ w' = w.alloc (.cells marksV.toArray 9) := by
  go_enter Tryd.func49, Tryd.ntmps49
  go_wp2_with fail
  go_ret
  exact ⟨rfl, rfl⟩
/-- the first mark that stands ahead, or none -/
def MarkIx (l : List UInt8) (w : World) (e : Ending) (w' : World) : Prop :=
  w' = w ∧ ((∃ k, ∃ hk : k < Lx.marks.length, e = .returned (.int .i64 (k : Int)) ∧ NoMark l k ∧ Lx.marks[k].isPrefixOf l = true) ∨ (e = .returned (.int .i64 (-1)) ∧ NoMark l 16))
theorem marks_cell {w : World} {g : Nat} (h : RowV w g 9 marksV) (k : Nat) (hk : k < Lx.marks.length) : w.cell? ⟨g, k, none⟩ = some (.string (Lx.mk Lx.marks[k])) := by
  rw [rowV_cell h k]
  show (Lx.marks.map fun m => Value.string (Lx.mk m))[k]? = _
  rw [List.getElem?_map, List.getElem?_eq_getElem hk]; rfl
set_option maxRecDepth 100000 in
set_option maxHeartbeats 3200000 in
theorem index13_any (s : ByteArray) (g gm : Nat) (w : World) (hc : w.cell? ⟨g, 0, none⟩ = some (.string s)) (hm : RowV w gm 9 marksV) :
    Calls Tryd.prog 50 #[.slice (some ⟨gm, 0, none⟩) 16 16, .func (.func 51) #[] #[.pointer (some ⟨g, 0, none⟩)]] w (MarkIx s.data.toList w) := by
  have H := Lib.hid (And.intro hc hm)
  clear hc hm
  go_enter Tryd.func50, Tryd.ntmps50
  go_wp2_with fail
  go_loop [8] (fun i => ∃ k : Nat, k ≤ 16 ∧ i = .int .i64 (k : Int) ∧ Hid (NoMark s.data.toList k)) (fun i => 16 - (intOf i).toNat)
  case atStart => exact ⟨0, Nat.zero_le _, rfl, Lib.hid (noMark_start _)⟩
  case round =>
    obtain ⟨k, hk, rfl, HM⟩ := hrel
    by_cases hlt : k < 16
    · have hkl : k < Lx.marks.length := hlt
      have hcell := marks_cell H.out.2 k hkl
      have hF := mark13_fn (Lx.mk Lx.marks[k]) s g w H.out.1
      rw [show (Lx.mk Lx.marks[k]).data.toList = Lx.marks[k] from rfl] at hF
      cases hb : Lx.marks[k].isPrefixOf s.data.toList with
      | true =>
        rw [hb] at hF
        have HX : Hid (MarkIx s.data.toList w (.returned (.int .i64 (k : Int))) w) := Lib.hid ⟨rfl, .inl ⟨k, hkl, rfl, HM.out, hb⟩⟩
        have HC := Lib.hid hF
        clear hF hb
        generalize Lx.mk Lx.marks[k] = M at *
        go_wp2_with fail
        refine HC.out.mono ?_
        rintro e w1 ⟨rfl, hw1⟩
        obtain rfl := hw1.symm; clear hw1
        go_wp2_with fail
        go_ret
        exact HX.out
      | false =>
        rw [hb] at hF
        have HX := Lib.hid (noMark_next HM.out hkl hb)
        have HC := Lib.hid hF
        clear hF hb
        generalize Lx.mk Lx.marks[k] = M at *
        go_wp2_with fail
        refine HC.out.mono ?_
        rintro e w1 ⟨rfl, hw1⟩
        obtain rfl := hw1.symm; clear hw1
        go_wp2_with fail
        go_round
        case rel => exact ⟨k + 1, by omega, by go_num, HX⟩
        case measure => simp [intOf]; omega
    · obtain rfl : k = 16 := by omega
      have HX : Hid (MarkIx s.data.toList w (.returned (.int .i64 (-1))) w) := Lib.hid ⟨rfl, .inr ⟨rfl, HM.out⟩⟩
      go_wp2_with fail
      go_ret
      exact HX.out
end Go.Proofs.YtmpfnokddpbgcaaDoor
