/-
  Layer 13: reserved words, and names, as the document says.
-/
import Derived.Test.YtmpfnokddpbgcaaDoorZLexRef
namespace Go.Proofs.YtmpfnokddpbgcaaDoor
open Go.RowKit
namespace Lx
def words : List (List UInt8) := [[97, 110, 100], [111, 114], [110, 111, 116], [105, 102], [116, 104, 101, 110], [101, 108, 115, 101], [116, 114, 117, 101], [102, 97, 108, 115, 101], [110, 117, 108, 108]]
def reserved (l : List UInt8) : Bool := decide (l ∈ words)
def nameB (s : ByteArray) : Bool := !(decide (s = Vl.mt)) && decide (word false s.data.toList = s.size) && decide (s.size ≤ 16) && !reserved s.data.toList
end Lx
abbrev wordsV : List Value := Lx.words.map fun m => .string (Lx.mk m)
theorem wordsV_at (k : Nat) (_ : k < wordsV.length) (h' : k < Lx.words.length) : wordsV[k] = .string (Lx.mk Lx.words[k]) := List.getElem_map ..
theorem words_len : Lx.words.length = 9 := rfl
def NoWord (l : List UInt8) (k : Nat) : Prop := l ∉ Lx.words.take k
theorem noWord_next {l : List UInt8} {k : Nat} (h : NoWord l k) (hk : k < Lx.words.length) (hp : Lx.words[k] ≠ l) : NoWord l (k + 1) := by
  intro hm
  rw [List.take_succ_eq_append_getElem hk] at hm
  rcases List.mem_append.1 hm with hm | hm
  · exact h hm
  · simp only [List.mem_singleton] at hm; exact hp hm.symm
theorem ba_list_ne {m : List UInt8} {s : ByteArray} (h : m ≠ s.data.toList) : ¬ (Lx.mk m).toList = s.toList := fun e => h (by rw [ByteArray.toList_eq, ByteArray.toList_eq] at e; exact e)
set_option maxRecDepth 100000 in
set_option maxHeartbeats 3200000 in
theorem rreserved13_any (s : ByteArray) (w : World) :
    Calls Tryd.prog 21 #[.string s] w fun e w' => e = .returned (.bool (Lx.reserved s.data.toList)) ∧ Below w.heap.size w w' := by
  have hb := (Below.refl w.heap.size w).alloc (Nat.le_refl _) (.cells wordsV.toArray 9)
  have H := Lib.hid hb
  clear hb
  go_enter Tryd.func21, Tryd.ntmps21
  go_wp2_with fail
  go_loop [4] (fun i => ∃ k : Nat, k ≤ 9 ∧ i = .int .i64 (k : Int) ∧ Hid (NoWord s.data.toList k)) (fun i => 9 - (intOf i).toNat)
  case atStart => exact ⟨0, Nat.zero_le _, rfl, Lib.hid (by intro h; simp at h)⟩
  case round =>
    obtain ⟨k, hk, rfl, HM⟩ := hrel
    by_cases hlt : k < 9
    · have hkl : k < Lx.words.length := hlt
      by_cases he : Lx.words[k] = s.data.toList
      · have HY : Hid (Lx.reserved s.data.toList = true) := Lib.hid (decide_eq_true (by rw [← he]; exact List.getElem_mem hkl))
        have hc : ([Value.string ⟨#[97, 110, 100]⟩, Value.string ⟨#[111, 114]⟩, Value.string ⟨#[110, 111, 116]⟩, Value.string ⟨#[105, 102]⟩, Value.string ⟨#[116, 104, 101, 110]⟩, Value.string ⟨#[101, 108, 115, 101]⟩, Value.string ⟨#[116, 114, 117, 101]⟩, Value.string ⟨#[102, 97, 108, 115, 101]⟩, Value.string ⟨#[110, 117, 108, 108]⟩] : List Value)[k]'hlt = .string s := by
          have e1 : Lx.mk Lx.words[k] = s := by rw [he]
          exact (wordsV_at k hlt hkl).trans (by rw [e1])
        have t1 : (s.toList == s.toList) = true := by simp
        clear he
        go_wp2_with fail
        go_ret
        exact ⟨ret_bool HY.out.symm, H.out⟩
      · have HN := Lib.hid (noWord_next HM.out hkl he)
        obtain ⟨W, hW⟩ : ∃ W, Lx.mk Lx.words[k] = W := ⟨_, rfl⟩
        have hc : ([Value.string ⟨#[97, 110, 100]⟩, Value.string ⟨#[111, 114]⟩, Value.string ⟨#[110, 111, 116]⟩, Value.string ⟨#[105, 102]⟩, Value.string ⟨#[116, 104, 101, 110]⟩, Value.string ⟨#[101, 108, 115, 101]⟩, Value.string ⟨#[116, 114, 117, 101]⟩, Value.string ⟨#[102, 97, 108, 115, 101]⟩, Value.string ⟨#[110, 117, 108, 108]⟩] : List Value)[k]'hlt = .string W := by
          exact (wordsV_at k hlt hkl).trans (by rw [hW])
        have t0 := ba_list_ne he
        rw [hW] at t0
        have t1 : (W.toList == s.toList) = false := by simpa using t0
        clear he hW t0
        go_wp2_with fail
        go_round
        case rel => exact ⟨k + 1, by omega, by go_num, HN⟩
        case measure => simp [intOf]; omega
    · obtain rfl : k = 9 := by omega
      have HE : Hid (Lx.reserved s.data.toList = false) := Lib.hid (decide_eq_false (by have h := HM.out; unfold NoWord at h; rwa [List.take_of_length_le (by rw [words_len]; omega)] at h))
      go_wp2_with fail
      go_ret
      exact ⟨ret_bool HE.out.symm, H.out⟩
theorem mt_iff13 (s : ByteArray) : s.toList = [] ↔ s = Vl.mt := by
  rw [ByteArray.toList_eq]
  constructor
  · intro h; apply Sl.ba_ext; rw [h]
  · rintro rfl; rfl
set_option maxRecDepth 100000 in
set_option maxHeartbeats 3200000 in
theorem rNameB13_any (s : ByteArray) (w : World) (hs : s.size ≤ maxLen) :
    Calls Tryd.prog 12 #[.string s] w fun e w' => e = .returned (.bool (Lx.nameB s)) ∧ Below w.heap.size w w' := by
  have cW := fun w => rword13_any s w hs
  have cR := fun w => rreserved13_any s w
  have hN : Lx.nameB s = (!(decide (s = Vl.mt)) && decide (Lx.word false s.data.toList = s.size) && decide (s.size ≤ 16) && !Lx.reserved s.data.toList) := rfl
  by_cases hm : s = Vl.mt
  · have e0 : s.toList = [] := (mt_iff13 s).2 hm
    rw [hm] at hN
    have HN : Hid (Lx.nameB s = false) := Lib.hid (by rw [hm, hN]; rfl)
    have e1 : (s.toList == []) = true := by rw [e0]; rfl
    clear hN hm cW cR hs
    go_enter Tryd.func12, Tryd.ntmps12
    go_wp2_with fail
    go_ret
    exact ⟨ret_bool HN.out.symm, Below.refl _ _⟩
  · have e0 : ¬ s.toList = [] := fun e => hm ((mt_iff13 s).1 e)
    have e1 : s.toList.isEmpty = false := by simpa using e0
    rw [decide_eq_false hm] at hN
    by_cases hw : Lx.word false s.data.toList = s.size
    · rw [decide_eq_true hw] at hN
      rw [hw] at cW
      have t2 : ((s.size : Int) == (s.size : Int)) = true := by simp
      by_cases h16 : (s.size : Int) ≤ 16
      · rw [decide_eq_true (show s.size ≤ 16 by omega)] at hN
        have HN := Lib.hid hN
        have HC := Lib.hid (And.intro cW cR)
        clear hN hm cW cR hs hw
        generalize Lx.reserved s.data.toList = RB at *
        go_enter Tryd.func12, Tryd.ntmps12
        go_wp2_with (go_at_call 20; refine (HC.out.1 _).mono ?_; rintro e w1 ⟨rfl, rfl⟩)
        refine (HC.out.2 _).mono ?_
        rintro e w2 ⟨rfl, hb⟩
        have H2 := Lib.hid hb
        clear hb
        go_wp2_with fail
        go_ret
        exact ⟨ret_bool (by rw [HN.out]; simp), H2.out⟩
      · rw [decide_eq_false (show ¬ s.size ≤ 16 by omega)] at hN
        have HN := Lib.hid hN
        have HC := Lib.hid cW
        clear hN hm cW cR hs hw
        go_enter Tryd.func12, Tryd.ntmps12
        go_wp2_with (go_at_call 20; refine (HC.out _).mono ?_; rintro e w1 ⟨rfl, rfl⟩)
        go_ret
        exact ⟨ret_bool (by rw [HN.out]; simp), Below.refl _ _⟩
    · rw [decide_eq_false hw] at hN
      have t2 : (((Lx.word false s.data.toList : Nat) : Int) == (s.size : Int)) = false := by simp; omega
      have HN := Lib.hid hN
      have HC := Lib.hid cW
      clear hN hm cW cR hs hw
      generalize Lx.word false s.data.toList = WL at *
      go_enter Tryd.func12, Tryd.ntmps12
      go_wp2_with (go_at_call 20; refine (HC.out _).mono ?_; rintro e w1 ⟨rfl, rfl⟩)
      go_ret
      exact ⟨ret_bool (by rw [HN.out]; simp), Below.refl _ _⟩
end Go.Proofs.YtmpfnokddpbgcaaDoor
