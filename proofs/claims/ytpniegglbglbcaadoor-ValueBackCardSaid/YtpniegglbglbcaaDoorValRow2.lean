/-
  Layer 12: a row's bytes, the program's and the document's; whether rows are right, and the same.
-/
import Derived.Test.YtpniegglbglbcaaDoorValRows
import Derived.Test.YtpniegglbglbcaaDoorValByte
import Derived.BigQuiet
namespace Go.Proofs.YtpniegglbglbcaaDoor
open Go.RowKit
/-- a value that an argument may be -/
def Fits (v : Vl.V) : Prop := -9223372036854775808 ≤ v.n ∧ v.n ≤ 9223372036854775807 ∧ v.s.size ≤ maxLen
abbrev AllRight (L : List Vl.V) : Prop := ∀ v ∈ L, Vl.right v
theorem allRight_take {L : List Vl.V} {k : Nat} (h : AllRight (L.take k)) (hk : k < L.length) (hr : Vl.right L[k]) : AllRight (L.take (k + 1)) := by
  intro v hv
  rw [List.take_add_one, List.getElem?_eq_getElem hk] at hv
  rcases List.mem_append.1 hv with hv | hv
  · exact h v hv
  · simp only [Option.toList_some, List.mem_singleton] at hv; subst hv; exact hr
theorem allRight_full {L : List Vl.V} {k : Nat} (h : AllRight (L.take k)) (hk : ¬ k < L.length) : AllRight L := by
  rw [List.take_of_length_le (by omega)] at h; exact h
theorem allRight_not {L : List Vl.V} {k : Nat} (hk : k < L.length) (hr : ¬ Vl.right L[k]) : ¬ AllRight L := fun h => hr (h _ (List.getElem_mem hk))
theorem allRight_zero (L : List Vl.V) : AllRight (L.take 0) := by intro v hv; simp at hv
/-- the cells of element k -/
theorem readsV_at {w : World} {a : Option Addr} {L : List Vl.V} (h : ReadsV w a L) (k : Nat) (hk : k < L.length) : ∃ b off, a = some ⟨b, off, none⟩ ∧ w.cell? ⟨b, off + k * 3, none⟩ = some (.int .i64 L[k].kind) ∧ w.cell? ⟨b, off + k * 3 + 1, none⟩ = some (.int .i64 L[k].n) ∧ w.cell? ⟨b, off + k * 3 + 2, none⟩ = some (.string L[k].s) := h k hk
set_option maxRecDepth 100000 in
set_option maxHeartbeats 3200000 in
theorem rrightRow12_any (a : Option Addr) (L : List Vl.V) (c : Nat) (w : World) (hr : ReadsV w a L) (hL : L.length ≤ maxLen) (hS : ∀ x ∈ L, Fits x) :
    Calls Tryd.prog 21 #[.slice a L.length c] w fun e w' => e = .returned (.bool (decide (AllRight L))) ∧ Below w.heap.size w w' := by
  unfold maxLen at hL
  go_enter Tryd.func21, Tryd.ntmps21
  go_wp2
  go_loopw [3] (fun i wr => ∃ k : Nat, k ≤ L.length ∧ i = .int .i64 (k : Int) ∧ Below w.heap.size w wr ∧ Hid (AllRight (L.take k))) (fun i _ => L.length - (intOf i).toNat)
  case atStart => exact ⟨0, Nat.zero_le _, rfl, Below.refl _ _, Lib.hid (allRight_zero L)⟩
  case round =>
    obtain ⟨k, hk, rfl, hb, HA⟩ := hrel
    by_cases hlt : k < L.length
    · obtain ⟨b, off, rfl, c0, c1, c2⟩ := readsV_at (readsV_below hr hb) k hlt
      have cR := fun wx => rright12_any L[k] wx (hS _ (List.getElem_mem hlt)).2.2
      have HX := allRight_take HA.out hlt
      have HY := allRight_not hlt
      generalize hx : L[k] = x at *
      obtain ⟨vk, vn, vs⟩ := x
      have BB := Lib.hid hb
      by_cases hr1 : Vl.right ⟨vk, vn, vs⟩
      · rw [decide_eq_true hr1] at cR
        have HR := Lib.hid (And.intro cR (HX hr1))
        clear cR HX HY hb hr1 hx
        go_wp2_with fail
        refine (HR.out.1 _).mono ?_
        rintro e w2 ⟨rfl, hb2⟩
        have HB := Lib.hid (BB.out.trans (hb2.mono BB.out.size))
        clear hb2
        go_wp2_with fail
        go_roundw
        case rel => exact ⟨k + 1, by omega, by go_num, HB.out, Lib.hid HR.out.2⟩
        case measure => simp [intOf]; omega
      · rw [decide_eq_false hr1] at cR
        have HR := Lib.hid (And.intro cR (HY hr1))
        clear cR HX HY hb hr1 hx
        go_wp2_with fail
        refine (HR.out.1 _).mono ?_
        rintro e w2 ⟨rfl, hb2⟩
        have HB := Lib.hid (BB.out.trans (hb2.mono BB.out.size))
        clear hb2
        go_wp2_with fail
        go_ret
        exact ⟨ret_bool (decide_eq_false HR.out.2).symm, HB.out⟩
    · have HF := Lib.hid (allRight_full HA.out hlt)
      have BB := Lib.hid hb
      clear hb
      go_wp2_with fail
      go_ret
      exact ⟨ret_bool (decide_eq_true HF.out).symm, BB.out⟩
theorem Vl.bytes_size {v : Vl.V} (h : Vl.right v) (h0 : -9223372036854775808 ≤ v.n) (h1 : v.n ≤ 9223372036854775807) : (Vl.bytes v).size ≤ 70 := by
  obtain ⟨k0, k3⟩ := Vl.right_kind h
  have l1 := Oct.numB_len v.kind (by omega) (by omega)
  have l2 := Oct.numB_len v.n h0 h1
  have l4 := Vl.right_size h
  have l3 := Oct.numB_len (v.s.size : Int) (by omega) (by omega)
  unfold Vl.bytes Vl.tail
  rw [ByteArray.size_append]
  split
  · omega
  · split
    · rw [ByteArray.size_append]; omega
    · show _ + 0 ≤ 70; omega
theorem Vl.allB_app (A B : List Vl.V) : Vl.allB (A ++ B) = Vl.allB A ++ Vl.allB B := by
  induction A with
  | nil => show Vl.allB B = Vl.mt ++ Vl.allB B; rw [Vl.mt_append]
  | cons x A ih => show Vl.bytes x ++ Vl.allB (A ++ B) = (Vl.bytes x ++ Vl.allB A) ++ Vl.allB B; rw [ih, ByteArray.append_assoc]
theorem Vl.allB_take (L : List Vl.V) (k : Nat) (hk : k < L.length) : Vl.allB (L.take (k + 1)) = Vl.allB (L.take k) ++ Vl.bytes L[k] := by
  rw [List.take_succ_eq_append_getElem hk, Vl.allB_app]
  show _ ++ (Vl.bytes L[k] ++ Vl.mt) = _
  rw [Vl.append_mt]
theorem Vl.allB_size : ∀ (L : List Vl.V), (∀ v ∈ L, Vl.right v ∧ -9223372036854775808 ≤ v.n ∧ v.n ≤ 9223372036854775807) → (Vl.allB L).size ≤ 70 * L.length
  | [], _ => Nat.zero_le _
  | x :: L, h => by
    obtain ⟨h1, h2, h3⟩ := h x (by simp)
    have ih := allB_size L fun y hy => h y (by simp [hy])
    have hx := bytes_size h1 h2 h3
    show (Vl.bytes x ++ Vl.allB L).size ≤ _
    rw [ByteArray.size_append, List.length_cons]; omega
/-- what stands of a row ahead of element k -/
def rowTo (L : List Vl.V) (k : Nat) : ByteArray := Oct.numB L.length ++ Vl.allB (L.take k)
theorem rowTo_zero (L : List Vl.V) : rowTo L 0 = Oct.numB L.length := by unfold rowTo; rw [List.take_zero]; exact Vl.append_mt _
theorem rowTo_next (L : List Vl.V) (k : Nat) (hk : k < L.length) : rowTo L (k + 1) = rowTo L k ++ Vl.bytes L[k] := by unfold rowTo; rw [Vl.allB_take L k hk, ByteArray.append_assoc]
theorem rowTo_end (L : List Vl.V) (k : Nat) (hk : ¬ k < L.length) : rowTo L k = Vl.row L := by unfold rowTo Vl.row; rw [List.take_of_length_le (by omega)]
theorem rowTo_size (L : List Vl.V) (k : Nat) (hL : L.length ≤ 1000) (h : AllRight (L.take k)) (hS : ∀ x ∈ L, Fits x) : (rowTo L k).size ≤ 70010 := by
  have l1 := Oct.numB_len (L.length : Int) (by omega) (by omega)
  have l2 := Vl.allB_size (L.take k) fun v hv => ⟨h v hv, (hS v (List.mem_of_mem_take hv)).1, (hS v (List.mem_of_mem_take hv)).2.1⟩
  have l3 : (L.take k).length ≤ 1000 := by rw [List.length_take]; omega
  unfold rowTo; rw [ByteArray.size_append]; omega
set_option maxRecDepth 100000 in
set_option maxHeartbeats 3200000 in
theorem rrow12_any (a : Option Addr) (L : List Vl.V) (c : Nat) (w : World) (hr : ReadsV w a L) (hL : L.length ≤ 1000) (hS : ∀ x ∈ L, Fits x) (hA : AllRight L) :
    Calls Tryd.prog 24 #[.slice a L.length c] w fun e w' => e = .returned (.string (Vl.row L)) ∧ Below w.heap.size w w' := by
  have hN := Oct.numB_len (L.length : Int) (by omega) (by omega)
  have cN := fun w => rnum_any (L.length : Int) w (by omega) (by omega)
  have hz := rowTo_zero L
  have hsz := fun k => rowTo_size L k hL (fun v hv => hA v (List.mem_of_mem_take hv)) hS
  rw [← hz] at cN
  have HC := Lib.hid cN
  clear cN hz
  go_enter Tryd.func24, Tryd.ntmps24
  go_wp2_with fail
  refine (HC.out _).mono ?_
  rintro e w1 ⟨rfl, hb1⟩
  have H1 := Lib.hid hb1
  clear hb1
  go_wp2_with fail
  go_loopw [3, 4] (fun o i wr => ∃ (k : Nat) (X : ByteArray), k ≤ L.length ∧ i = .int .i64 (k : Int) ∧ o = .string X ∧ Hid (X = rowTo L k) ∧ Hid (Below w.heap.size w wr)) (fun _ i _ => L.length - (intOf i).toNat)
  case atStart => exact ⟨0, _, Nat.zero_le _, rfl, rfl, Lib.hid rfl, H1⟩
  case round =>
    obtain ⟨k, X, hk, rfl, rfl, HX, hb⟩ := hrel
    have hXs : X.size ≤ 70010 := by rw [HX.out]; exact hsz k
    by_cases hlt : k < L.length
    · obtain ⟨b, off, rfl, c0, c1, c2⟩ := readsV_at (readsV_below hr hb.out) k hlt
      have hf := hS _ (List.getElem_mem hlt)
      have hxr := hA _ (List.getElem_mem hlt)
      have cR := fun wx => rbytes12_any L[k] hxr hf.1 hf.2.1 wx
      have hbs := Vl.bytes_size hxr hf.1 hf.2.1
      have HX2 := rowTo_next L k hlt
      generalize hx : L[k] = x at *
      obtain ⟨vk, vn, vs⟩ := x
      generalize Vl.bytes _ = BX at *
      have HR := Lib.hid (And.intro cR HX2)
      clear cR HX2 hxr hf hx
      go_wp2_with fail
      refine (HR.out.1 _).mono ?_
      rintro e w2 ⟨rfl, hb2⟩
      have HB := Lib.hid (hb.out.trans (hb2.mono hb.out.size))
      clear hb2
      go_wp2_with fail
      go_roundw
      case rel => exact ⟨k + 1, _, by omega, by go_num, rfl, Lib.hid (by rw [HR.out.2, HX.out]), HB⟩
      case measure => simp [intOf]; omega
    · have HF := Lib.hid (rowTo_end L k hlt)
      go_wp2_with fail
      go_ret
      exact ⟨ret_str (by rw [HX.out, HF.out]), hb.out⟩
end Go.Proofs.YtpniegglbglbcaaDoor
