/-
  Layer 12: which values are right, the program's answer and the document's.
-/
import Derived.Test.YtpniegglbglbcaaDoorValMath
import Derived.Test.YtpniegglbglbcaaDoorOctOwn
import Derived.Test.YtpniegglbglbcaaDoorOctTxt
import Derived.Test.YtpniegglbglbcaaDoorBits
import Derived.LoopTactic
import Derived.Laws.RangeAny
import Derived.Deep.RegionHeld3
namespace Go.Proofs.YtpniegglbglbcaaDoor
open Go.RowKit
/-- a value as a value -/
abbrev valC (v : Vl.V) : Array Value := #[.int .i64 v.kind, .int .i64 v.n, .string v.s]
abbrev valV (v : Vl.V) : Value := .agg (valC v)
/-- the bytes ahead of pos may stand in a text -/
def PlainTo (s : ByteArray) (pos : Nat) : Prop := ∀ b ∈ s.data.toList.take pos, 32 ≤ b.toNat ∧ b.toNat ≤ 126
theorem plainTo_start (s : ByteArray) : PlainTo s 0 := by intro b hb; simp at hb
theorem plainTo_step {s : ByteArray} {pos : Nat} (h : PlainTo s pos) (hp : pos < s.size) (h1 : 32 ≤ (s[pos]).toNat) (h2 : (s[pos]).toNat ≤ 126) : PlainTo s (pos + 1) := by
  intro b hb
  have hl : pos < s.data.toList.length := by simpa using hp
  rw [List.take_add_one, List.getElem?_eq_getElem hl] at hb
  rcases List.mem_append.1 hb with hb | hb
  · exact h b hb
  · simp only [Option.toList_some, List.mem_singleton] at hb
    subst hb
    exact ⟨h1, h2⟩
theorem plainTo_all {s : ByteArray} {pos : Nat} (h : PlainTo s pos) (hp : ¬ pos < s.size) (h40 : s.size ≤ 40) : Vl.plain s := by
  refine ⟨h40, fun b hb => h b ?_⟩
  rw [List.take_of_length_le (by simp; omega)]
  exact hb
theorem plain_not {s : ByteArray} {pos : Nat} (hp : pos < s.size) (h : (s[pos]).toNat < 32 ∨ 126 < (s[pos]).toNat) : ¬ Vl.plain s := by
  intro hh
  have := hh.2 s[pos] (by
    have hl : pos < s.data.toList.length := by simpa using hp
    exact (List.getElem_mem hl : s.data.toList[pos] ∈ s.data.toList))
  omega
theorem below_iter {w : World} (s : ByteArray) (pos : Nat) : Below w.heap.size w (w.iter s pos) := (Below.refl w.heap.size w).alloc (Nat.le_refl _) _
set_option maxRecDepth 100000 in
set_option maxHeartbeats 1600000 in
theorem rightText_any (s : ByteArray) (w : World) :
    Calls Tryd.prog 50 #[.string s] w fun e w' => e = .returned (.bool (decide (Vl.plain s))) ∧ Below w.heap.size w w' := by
  have hbl : Hid (∀ pos, Below w.heap.size w (w.iter s pos)) := Lib.hid fun pos => below_iter s pos
  by_cases h40 : (s.size : Int) > 40
  · go_enter Tryd.func50, Tryd.ntmps50
    go_wp2_with fail
    go_ret
    exact ⟨ret_bool (decide_eq_false (fun hh : Vl.plain s => by have := hh.1; omega)).symm, Below.refl _ _⟩
  · go_enter Tryd.func50, Tryd.ntmps50
    go_wp2
    go_loopw [4] (fun _ w' => ∃ (pos : Nat), w' = w.iter s pos ∧ pos ≤ s.size ∧ Hid (PlainTo s pos)) (fun _ w' => s.size - w'.iterPos w.heap.size)
    case atStart => exact ⟨0, rfl, Nat.zero_le _, Lib.hid (plainTo_start s)⟩
    case round =>
      obtain ⟨pos, rfl, hle, hpl⟩ := hrel
      by_cases hp : pos < s.size
      · by_cases ha : (s[pos]).toNat < 128
        · have hnx : ∀ ty, (Instr.next (.pointer (some ⟨w.heap.size, 0, none⟩)) true ty).run Tryd.prog (w.iter s pos) = _ := fun ty => run_next_ascii w s pos ty hp ha
          by_cases h1 : ((s[pos]).toNat : Int) < 32
          · have hno := Lib.hid (plain_not hp (.inl (by omega)))
            go_wp2_with fail
            go_ret
            exact ⟨ret_bool (decide_eq_false hno.out).symm, hbl.out _⟩
          · by_cases h2 : ((s[pos]).toNat : Int) > 126
            · have hno := Lib.hid (plain_not hp (.inr (by omega)))
              go_wp2_with fail
              go_ret
              exact ⟨ret_bool (decide_eq_false hno.out).symm, hbl.out _⟩
            · go_wp2_with fail
              go_roundw
              case rel => exact ⟨pos + 1, rfl, by omega, Lib.hid (plainTo_step hpl.out hp (by omega) (by omega))⟩
              case measure => simp; omega
        · have hnx : ∀ ty, (Instr.next (.pointer (some ⟨w.heap.size, 0, none⟩)) true ty).run Tryd.prog (w.iter s pos) = _ := fun ty => run_next_any w s pos ty hp
          have hd := (decode_high s pos hp (by omega)).1
          have hno := Lib.hid (plain_not hp (.inr (by omega)))
          have h1 : ¬ ((Utf8.decode s pos).1 : Int) < 32 := by omega
          have h2 : ((Utf8.decode s pos).1 : Int) > 126 := by omega
          go_wp2_with fail
          go_ret
          exact ⟨ret_bool (decide_eq_false hno.out).symm, hbl.out _⟩
      · have hnx : ∀ ty, (Instr.next (.pointer (some ⟨w.heap.size, 0, none⟩)) true ty).run Tryd.prog (w.iter s pos) = _ := fun ty => run_next_end w s pos ty hp
        go_wp2_with fail
        go_ret
        exact ⟨ret_bool (decide_eq_true (plainTo_all hpl.out hp (by omega))).symm, hbl.out _⟩
set_option maxRecDepth 100000 in
set_option maxHeartbeats 1600000 in
theorem plain_any (s : ByteArray) (w : World) (hs : s.size ≤ maxLen) :
    Calls Tryd.prog 29 #[.string s] w fun e w' => e = .returned (.bool (decide (Vl.plain s))) ∧ w' = w := by
  unfold maxLen at hs
  go_enter Tryd.func29, Tryd.ntmps29
  go_wp2
  go_loop [3] (fun i => ∃ k : Nat, i = .int .i64 k ∧ k ≤ s.size ∧ Hid (PlainTo s k)) (fun i => s.size - (intOf i).toNat)
  case atStart => exact ⟨0, rfl, Nat.zero_le _, Lib.hid (plainTo_start s)⟩
  case round =>
    obtain ⟨k, rfl, hle, hpl⟩ := hrel
    by_cases hp : k < s.size
    · by_cases h1 : ((s[k]).toNat : Int) < 32
      · have hno := Lib.hid (plain_not hp (.inl (by omega)))
        go_wp2_with fail
        go_ret
        exact ⟨ret_bool (decide_eq_false hno.out).symm, rfl⟩
      · by_cases h2 : ((s[k]).toNat : Int) > 126
        · have hno := Lib.hid (plain_not hp (.inr (by omega)))
          go_wp2_with fail
          go_ret
          exact ⟨ret_bool (decide_eq_false hno.out).symm, rfl⟩
        · have hst := Lib.hid (plainTo_step hpl.out hp (by omega) (by omega))
          go_wp2_with fail
          go_round
          case rel => exact ⟨k + 1, by go_num, by omega, hst⟩
          case measure => simp [intOf]; omega
    · by_cases h40 : (s.size : Int) ≤ 40
      · have hall := Lib.hid (plainTo_all hpl.out hp (by omega))
        go_wp2_with fail
        go_ret
        exact ⟨ret_bool (by simp [hall.out]), rfl⟩
      · go_wp2_with fail
        go_ret
        exact ⟨ret_bool (by rw [decide_eq_false (fun hh : Vl.plain s => by have := hh.1; omega)]), rfl⟩
/-! right -/
/-- what the box of a value leaves -/
theorem below_box {w w' : World} (o : Obj) (h : Below (w.alloc o).heap.size (w.alloc o) w') : Below w.heap.size w w' :=
  ((Below.refl w.heap.size w).alloc (Nat.le_refl _) o).trans (h.mono (by rw [show (w.alloc o).heap.size = w.heap.size + 1 from Array.size_push _]; omega))
theorem mt_iff (s : ByteArray) : s.toList = [] ↔ s = Vl.mt := by
  rw [ByteArray.toList_eq]
  constructor
  · intro h; apply Sl.ba_ext; rw [h]
  · rintro rfl; rfl
theorem isEmp {p : Prop} [Decidable p] {l : List UInt8} (h : p ↔ l = []) : l.isEmpty = decide p := by cases l <;> simp [h]
theorem not_right {k n : Int} {s : ByteArray} (h2 : k ≠ 2 ∨ n ≠ 0) (h0 : k ≠ 0 ∨ n ≠ 0) (h1 : k ≠ 1) (h3 : k ≠ 3 ∨ (n ≠ 0 ∧ n ≠ 1)) : ¬ Vl.right ⟨k, n, s⟩ := by
  intro h
  rcases h with ⟨h, h', _⟩ | ⟨h, _⟩ | ⟨h, h', _⟩ | ⟨h, h', _⟩
  · simp only at h h'; omega
  · simp only at h; omega
  · simp only at h h'; omega
  · simp only at h h'; rcases h' with h' | h' <;> omega
theorem right_mt {k n : Int} {s : ByteArray} (h : (k = 0 ∧ n = 0) ∨ k = 1 ∨ (k = 3 ∧ (n = 0 ∨ n = 1))) : Vl.right ⟨k, n, s⟩ ↔ s.toList = [] := by
  rw [mt_iff]
  constructor
  · intro hr
    rcases hr with ⟨_, _, e⟩ | ⟨_, e⟩ | ⟨h2, _⟩ | ⟨_, _, e⟩
    · exact e
    · exact e
    · simp only at h2; omega
    · exact e
  · intro e
    rcases h with ⟨h, h'⟩ | h | ⟨h, h'⟩
    · exact .inl ⟨h, h', e⟩
    · exact .inr (.inl ⟨h, e⟩)
    · exact .inr (.inr (.inr ⟨h, h', e⟩))
theorem right_txt {s : ByteArray} : Vl.right ⟨2, 0, s⟩ ↔ Vl.plain s := by
  constructor
  · intro h
    rcases h with ⟨h, _⟩ | ⟨h, _⟩ | ⟨_, _, e⟩ | ⟨h, _⟩
    · exact absurd h (by simp)
    · exact absurd h (by simp)
    · exact e
    · exact absurd h (by simp)
  · intro h; exact .inr (.inr (.inl ⟨rfl, rfl, h⟩))
set_option maxRecDepth 100000 in
set_option maxHeartbeats 3200000 in
theorem right12_any (v : Vl.V) (w : World) :
    Calls Tryd.prog 30 #[valV v] w fun e w' => e = .returned (.bool (decide (Vl.right v))) ∧ Below w.heap.size w w' := by
  obtain ⟨k, n, s⟩ := v
  have hb0 : Hid (Below w.heap.size w (w.alloc (.cells #[.int .i64 k, .int .i64 n, .string s] 24))) := Lib.hid ((Below.refl w.heap.size w).alloc (Nat.le_refl _) _)
  have hb1 : Hid (∀ w', Below (w.alloc (.cells #[.int .i64 k, .int .i64 n, .string s] 24)).heap.size (w.alloc (.cells #[.int .i64 k, .int .i64 n, .string s] 24)) w' → Below w.heap.size w w') := Lib.hid fun w' h => below_box _ h
  by_cases k2 : k = 2
  · subst k2
    by_cases n0 : n = 0
    · subst n0
      have R := Lib.hid (right_txt (s := s))
      go_enter Tryd.func30, Tryd.ntmps30
      go_wp2_with (go_at_call 50; refine (rightText_any _ _).mono ?_; rintro e w1 ⟨rfl, hb⟩; have H := Lib.hid hb; clear hb)
      go_ret
      exact ⟨ret_bool (decide_eq_decide.2 R.out.symm), hb1.out _ H.out⟩
    · have R := Lib.hid (not_right (k := 2) (n := n) (s := s) (.inr n0) (.inr n0) (by omega) (by omega))
      have t : (n == 0) = false := by simp; exact n0
      go_enter Tryd.func30, Tryd.ntmps30
      go_wp2_with fail
      go_ret
      exact ⟨ret_bool (decide_eq_false R.out).symm, hb0.out⟩
  · have t2 : (k == 2) = false := by simp; exact k2
    by_cases k0 : k = 0
    · subst k0
      by_cases n0 : n = 0
      · subst n0
        have R := Lib.hid (right_mt (k := 0) (n := 0) (s := s) (.inl ⟨rfl, rfl⟩))
        clear t2 k2
        go_enter Tryd.func30, Tryd.ntmps30
        go_wp2_with fail
        go_ret
        exact ⟨ret_bool (isEmp R.out), hb0.out⟩
      · have R := Lib.hid (not_right (k := 0) (n := n) (s := s) (.inr n0) (.inr n0) (by omega) (by omega))
        have t : (n == 0) = false := by simp; exact n0
        clear t2 k2
        go_enter Tryd.func30, Tryd.ntmps30
        go_wp2_with fail
        go_ret
        exact ⟨ret_bool (decide_eq_false R.out).symm, hb0.out⟩
    · have t0 : (k == 0) = false := by simp; exact k0
      by_cases k3 : k = 3
      · subst k3
        by_cases n0 : n < 0
        · have R := Lib.hid (not_right (k := 3) (n := n) (s := s) (by omega) (by omega) (by omega) (by omega))
          clear t2 k2 k0 t0
          go_enter Tryd.func30, Tryd.ntmps30
          go_wp2_with fail
          go_ret
          exact ⟨ret_bool (decide_eq_false R.out).symm, hb0.out⟩
        · by_cases n1 : n > 1
          · have R := Lib.hid (not_right (k := 3) (n := n) (s := s) (by omega) (by omega) (by omega) (by omega))
            clear t2 k2 k0 t0
            go_enter Tryd.func30, Tryd.ntmps30
            go_wp2_with fail
            go_ret
            exact ⟨ret_bool (decide_eq_false R.out).symm, hb0.out⟩
          · have R := Lib.hid (right_mt (k := 3) (n := n) (s := s) (.inr (.inr ⟨rfl, by omega⟩)))
            clear t2 k2 k0 t0
            go_enter Tryd.func30, Tryd.ntmps30
            go_wp2_with fail
            go_ret
            exact ⟨ret_bool (isEmp R.out), hb0.out⟩
      · have t3 : (k == 3) = false := by simp; exact k3
        by_cases k1 : k = 1
        · subst k1
          have R := Lib.hid (right_mt (k := 1) (n := n) (s := s) (.inr (.inl rfl)))
          clear t2 k2 k0 t0 k3 t3
          go_enter Tryd.func30, Tryd.ntmps30
          go_wp2_with fail
          go_ret
          exact ⟨ret_bool (isEmp R.out), hb0.out⟩
        · have t1 : (k == 1) = false := by simp; exact k1
          have R := Lib.hid (not_right (k := k) (n := n) (s := s) (.inl k2) (.inl k0) k1 (.inl k3))
          go_enter Tryd.func30, Tryd.ntmps30
          go_wp2_with fail
          go_ret
          exact ⟨ret_bool (decide_eq_false R.out).symm, hb0.out⟩
set_option maxRecDepth 100000 in
set_option maxHeartbeats 3200000 in
theorem rright12_any (v : Vl.V) (w : World) (hs : v.s.size ≤ maxLen) :
    Calls Tryd.prog 11 #[valV v] w fun e w' => e = .returned (.bool (decide (Vl.right v))) ∧ Below w.heap.size w w' := by
  obtain ⟨k, n, s⟩ := v
  have hb0 : Hid (Below w.heap.size w (w.alloc (.cells #[.int .i64 k, .int .i64 n, .string s] 24))) := Lib.hid ((Below.refl w.heap.size w).alloc (Nat.le_refl _) _)
  have P := fun w => plain_any s w hs
  clear hs
  by_cases k0 : k = 0
  · subst k0
    by_cases n0 : n = 0
    · subst n0
      have R := Lib.hid (right_mt (k := 0) (n := 0) (s := s) (.inl ⟨rfl, rfl⟩))
      go_enter Tryd.func11, Tryd.ntmps11
      go_wp2_with fail
      go_ret
      exact ⟨ret_bool (isEmp R.out), hb0.out⟩
    · have R := Lib.hid (not_right (k := 0) (n := n) (s := s) (.inr n0) (.inr n0) (by omega) (by omega))
      have t : (n == 0) = false := by simp; exact n0
      go_enter Tryd.func11, Tryd.ntmps11
      go_wp2_with fail
      go_ret
      exact ⟨ret_bool (decide_eq_false R.out).symm, hb0.out⟩
  · have t0 : (k == 0) = false := by simp; exact k0
    by_cases k1 : k = 1
    · subst k1
      have R := Lib.hid (right_mt (k := 1) (n := n) (s := s) (.inr (.inl rfl)))
      clear k0 t0
      go_enter Tryd.func11, Tryd.ntmps11
      go_wp2_with fail
      go_ret
      exact ⟨ret_bool (isEmp R.out), hb0.out⟩
    · have t1 : (k == 1) = false := by simp; exact k1
      by_cases k2 : k = 2
      · subst k2
        clear k0 t0 k1 t1
        by_cases n0 : n = 0
        · subst n0
          have R := Lib.hid (right_txt (s := s))
          go_enter Tryd.func11, Tryd.ntmps11
          go_wp2_with (go_at_call 29; refine (P _).mono ?_; rintro e w1 ⟨rfl, rfl⟩)
          go_ret
          exact ⟨ret_bool (decide_eq_decide.2 R.out.symm), hb0.out⟩
        · have R := Lib.hid (not_right (k := 2) (n := n) (s := s) (.inr n0) (.inr n0) (by omega) (by omega))
          have t : (n == 0) = false := by simp; exact n0
          go_enter Tryd.func11, Tryd.ntmps11
          go_wp2_with fail
          go_ret
          exact ⟨ret_bool (decide_eq_false R.out).symm, hb0.out⟩
      · have t2 : (k == 2) = false := by simp; exact k2
        by_cases k3 : k = 3
        · subst k3
          clear k0 t0 k1 t1 k2 t2
          by_cases n0 : n = 0
          · subst n0
            have R := Lib.hid (right_mt (k := 3) (n := 0) (s := s) (.inr (.inr ⟨rfl, .inl rfl⟩)))
            by_cases hm : s.toList = []
            · go_enter Tryd.func11, Tryd.ntmps11
              go_wp2_with fail
              go_ret
              exact ⟨ret_bool (by simp [R.out, hm]), hb0.out⟩
            · go_enter Tryd.func11, Tryd.ntmps11
              go_wp2_with fail
              go_ret
              exact ⟨ret_bool (by simp [R.out, hm]), hb0.out⟩
          · have t : (n == 0) = false := by simp; exact n0
            by_cases n1 : n = 1
            · subst n1
              have R := Lib.hid (right_mt (k := 3) (n := 1) (s := s) (.inr (.inr ⟨rfl, .inr rfl⟩)))
              clear t n0
              by_cases hm : s.toList = []
              · go_enter Tryd.func11, Tryd.ntmps11
                go_wp2_with fail
                go_ret
                exact ⟨ret_bool (by simp [R.out, hm]), hb0.out⟩
              · go_enter Tryd.func11, Tryd.ntmps11
                go_wp2_with fail
                go_ret
                exact ⟨ret_bool (by simp [R.out, hm]), hb0.out⟩
            · have t' : (n == 1) = false := by simp; exact n1
              have R := Lib.hid (not_right (k := 3) (n := n) (s := s) (by omega) (by omega) (by omega) (by omega))
              by_cases hm : s.toList = []
              · go_enter Tryd.func11, Tryd.ntmps11
                go_wp2_with fail
                go_ret
                exact ⟨ret_bool (decide_eq_false R.out).symm, hb0.out⟩
              · go_enter Tryd.func11, Tryd.ntmps11
                go_wp2_with fail
                go_ret
                exact ⟨ret_bool (decide_eq_false R.out).symm, hb0.out⟩
        · have t3 : (k == 3) = false := by simp; exact k3
          have R := Lib.hid (not_right (k := k) (n := n) (s := s) (.inl k2) (.inl k0) k1 (.inl k3))
          go_enter Tryd.func11, Tryd.ntmps11
          go_wp2_with fail
          go_ret
          exact ⟨ret_bool (decide_eq_false R.out).symm, hb0.out⟩
/-- Check -/
def checkE (v : Vl.V) : Int := if Vl.right v then 0 else 2
theorem checkE_ok {v : Vl.V} (h : Vl.right v) : checkE v = 0 := if_pos h
theorem checkE_bad {v : Vl.V} (h : ¬ Vl.right v) : checkE v = 2 := if_neg h
set_option maxRecDepth 100000 in
set_option maxHeartbeats 1600000 in
theorem check12_any (v : Vl.V) (w : World) :
    Calls Tryd.prog 12 #[valV v] w fun e w' => e = .returned (.int .i64 (checkE v)) ∧ Below w.heap.size w w' := by
  have hb1 : Hid (∀ w', Below (w.alloc (.cells (valC v) 24)).heap.size (w.alloc (.cells (valC v) 24)) w' → Below w.heap.size w w') := Lib.hid fun w' h => below_box _ h
  by_cases hr : Vl.right v
  · have E := Lib.hid (checkE_ok hr)
    have c := fun w => right12_any v w
    rw [decide_eq_true hr] at c
    clear hr
    go_enter Tryd.func12, Tryd.ntmps12
    go_wp2_with (go_at_call 30; refine (c _).mono ?_; rintro e w1 ⟨rfl, hb⟩; have H := Lib.hid hb; clear hb)
    go_ret
    exact ⟨ret_int E.out.symm, hb1.out _ H.out⟩
  · have E := Lib.hid (checkE_bad hr)
    have c := fun w => right12_any v w
    rw [decide_eq_false hr] at c
    clear hr
    go_enter Tryd.func12, Tryd.ntmps12
    go_wp2_with (go_at_call 30; refine (c _).mono ?_; rintro e w1 ⟨rfl, hb⟩; have H := Lib.hid hb; clear hb)
    go_ret
    exact ⟨ret_int E.out.symm, hb1.out _ H.out⟩
end Go.Proofs.YtpniegglbglbcaaDoor
