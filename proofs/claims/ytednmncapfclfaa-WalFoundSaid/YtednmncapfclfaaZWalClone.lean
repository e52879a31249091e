/-
  Layer 7: a list of strings copied (slices.Clone), and Records.
-/
import Derived.Test.YtednmncapfclfaaZWalSmall
namespace Go.Proofs.Ytednmncapfclfaa
open Go.RowKit
def ClonedS (L : List ByteArray) (w : World) (e : Ending) (w' : World) : Prop := ∃ la cap, e = .returned (.slice la L.length cap) ∧ ReadsS w' la L ∧ Below w.heap.size w w'
theorem eql_nil (a : Option Addr) (n c n' c' : Nat) (w : World) : (binOp .eql 39 (.slice a n c) (.slice none n' c')).run Try.prog w = .ok (.bool a.isNone) w := Lib.run_eql_slice_nil w 39 9 a n c n' c' Try.underlying39
/-- and it lies in a block of its own -/
def ClonedN (L : List ByteArray) (w : World) (e : Ending) (w' : World) : Prop := ∃ la cap, e = .returned (.slice la L.length cap) ∧ ReadsS w' la L ∧ Below w.heap.size w w' ∧ ∀ a, la = some a → L ≠ [] → w.heap.size ≤ a.block
theorem clonedN_S {L : List ByteArray} {w w' : World} {e : Ending} (h : ClonedN L w e w') : ClonedS L w e w' := by
  obtain ⟨la, cap, h1, h2, h3, _⟩ := h
  exact ⟨la, cap, h1, h2, h3⟩
section
variable {w : World} {S : Nat → Prop} {l p : Nat} {g : Wl.Lg} {v : Value}
set_option maxRecDepth 100000 in
theorem clone_nil (c : Nat) (w : World) : Calls Try.prog 36 #[.slice none 0 c] w (ClonedN [] w) := by
  have hq := eql_nil none 0 c 0 0 w
  go_enter Try.func36, Try.ntmps36
  go_wp2_with fail
  go_ret
  exact ⟨none, 0, rfl, readsS_none _ _, Below.refl _ _, fun _ h => by cases h⟩
set_option maxRecDepth 100000 in
set_option maxHeartbeats 800000 in
theorem clone_some (a : Addr) (c : Nat) (L : List ByteArray) (hL : L.length ≤ 1000000) (hr : ReadsS w (some a) L) : Calls Try.prog 36 #[.slice (some a) L.length c] w (ClonedN L w) := by
  obtain ⟨i0, hi0, hz0, hz1, hz2⟩ := info_parts info_str
  have hq := eql_nil (some a) L.length c 0 0 w
  have H := Lib.hid (And.intro hr hL)
  clear hr hL
  go_enter Try.func36, Try.ntmps36
  go_wp2_with (at_builtin; refine wpList_append_rec (S := fun j => w.heap.size ≤ j) (Av := fun _ => False) rfl (.tmp 5) (.tmp 6) _ rfl i0 Try.underlying39 hi0 hz0 hz1 hz2 rfl (recAt_nil _ _ _ _) (some a) c L rfl (readsS_below H.out.1 ((Below.refl _ _).alloc (Nat.le_refl _) _)) (by have := H.out.2; simpa using this) (fun _ h => h.elim) ?_; intro la' cap' w' hR ho)
  have hB : Below w.heap.size w w' := ((Below.refl _ _).alloc (Nat.le_refl _) _).trans (ho.below (fun _ _ h => h.1) (by simp))
  go_ret
  refine ⟨la', cap', by simp, recAt_reads hR, hB, fun a ha hne => ?_⟩
  obtain ⟨a', ha', hs, _⟩ := recAt_src hR (by simpa using hne)
  rw [ha] at ha'; cases ha'
  exact hs.elim id fun h => by simp at h; omega
set_option maxRecDepth 100000 in
theorem wrecords_new (h : LogAt 63 w S l p g) (hL : g.L.length ≤ 1000000) : Calls Try.prog 18 #[.pointer (some ⟨l, 0, none⟩)] w (ClonedN g.L w) := by
  obtain ⟨la, cap, h1, h2, _⟩ := h
  have c5 := lg_5 h1
  have hr := recAt_reads h2
  have cC : Calls Try.prog 36 #[.slice la g.L.length cap] w (ClonedN g.L w) := by
    cases la with
    | none =>
      have hz : g.L = [] := by
        rcases h2 with ⟨_, h⟩ | ⟨_, _, _, h, _⟩
        · exact h
        · cases h
      rw [hz]; exact clone_nil cap w
    | some a => exact clone_some a cap g.L hL hr
  have H := Lib.hid (And.intro (wnone_any h1) cC)
  clear h1 h2 cC hr hL
  go_enter Try.func18, Try.ntmps18
  go_wp2_with fail
  refine H.out.1.mono ?_
  rintro e w1 ⟨rfl, hw1⟩
  obtain rfl := hw1.symm; clear hw1
  go_wp2_with fail
  refine H.out.2.mono ?_
  rintro e w2 ⟨a', c', rfl, hr2, hb2, hn2⟩
  have K := Lib.hid (And.intro hr2 (And.intro hb2 hn2))
  clear hr2 hb2 hn2
  go_wp2_with fail
  go_ret
  exact ⟨a', c', rfl, K.out.1, K.out.2.1, K.out.2.2⟩
theorem wrecords_any (h : LogAt 63 w S l p g) (hL : g.L.length ≤ 1000000) : Calls Try.prog 18 #[.pointer (some ⟨l, 0, none⟩)] w (ClonedS g.L w) :=
  (wrecords_new h hL).mono fun _ _ h => clonedN_S h
end
/-! ### too long a record -/
section
variable {w : World}
set_option maxRecDepth 100000 in
theorem wbig_any (s : ByteArray) (w : World) : Calls Try.prog 41 #[.string s] w fun e w' => e = .returned (.bool (Wl.big s)) ∧ w' = w := by
  have HE := Lib.hid (show Wl.big s = decide (490 < (s.size : Int)) by unfold Wl.big; exact decide_eq_decide.2 (by omega))
  go_enter Try.func41, Try.ntmps41
  go_wp2_with fail
  go_ret
  exact ⟨ret_bool HE.out.symm, rfl⟩
theorem any_take (l : List ByteArray) (k : Nat) (hk : k < l.length) : (l.take (k + 1)).any Wl.big = ((l.take k).any Wl.big || Wl.big l[k]) := by
  rw [List.take_succ_eq_append_getElem hk, List.any_append]; simp
theorem any_mem (l : List ByteArray) (k : Nat) (hk : k < l.length) (h : Wl.big l[k] = true) : l.any Wl.big = true := List.any_eq_true.2 ⟨_, List.getElem_mem hk, h⟩
def IndexP (l : List ByteArray) (w : World) (e : Ending) (w' : World) : Prop := ∃ i : Int, e = .returned (.int .i64 i) ∧ (decide (0 ≤ i) = l.any Wl.big) ∧ w' = w
set_option maxRecDepth 100000 in
set_option maxHeartbeats 800000 in
theorem windex_any (ad : Option Addr) (l : List ByteArray) (c : Nat) (hr : ReadsS w ad l) (hL : l.length ≤ 1000000) :
    Calls Try.prog 58 #[.slice ad l.length c, .func (.func 41) #[] #[]] w (IndexP l w) := by
  have H := Lib.hid hr
  clear hr
  go_enter Try.func58, Try.ntmps58
  go_wp2_with fail
  go_loop [8] (fun i => ∃ k : Nat, k ≤ l.length ∧ i = .int .i64 (k : Int) ∧ Hid ((l.take k).any Wl.big = false)) (fun i => l.length - (intOf i).toNat)
  case atStart => exact ⟨0, Nat.zero_le _, rfl, Lib.hid rfl⟩
  case round =>
    obtain ⟨k, hk, rfl, HK⟩ := hrel
    by_cases hlt : k < l.length
    · obtain ⟨b, off, rfl, hc⟩ := H.out k hlt
      have ht := any_take l k hlt
      have hm := any_mem l k hlt
      generalize l[k] = x at *
      have HX := Lib.hid (And.intro ht hm)
      clear ht hm
      cases hb : Wl.big x with
      | true =>
        have hcall := fun w => wbig_any x w
        rw [hb] at hcall
        have HC := Lib.hid (And.intro hcall hb)
        clear hcall hb
        go_wp2_with fail
        refine (HC.out.1 _).mono ?_
        rintro e w1 ⟨rfl, hw1⟩
        obtain rfl := hw1.symm; clear hw1
        go_wp2_with fail
        go_ret
        exact ⟨_, rfl, by rw [HX.out.2 HC.out.2]; simp, rfl⟩
      | false =>
        have hcall := fun w => wbig_any x w
        rw [hb] at hcall
        have HC := Lib.hid (And.intro hcall hb)
        clear hcall hb
        go_wp2_with fail
        refine (HC.out.1 _).mono ?_
        rintro e w1 ⟨rfl, hw1⟩
        obtain rfl := hw1.symm; clear hw1
        go_wp2_with fail
        go_round
        case rel => exact ⟨k + 1, by omega, by go_num, Lib.hid (by rw [HX.out.1, HK.out, HC.out.2]; rfl)⟩
        case measure => simp [intOf]; omega
    · obtain rfl : k = l.length := by omega
      go_wp2_with fail
      go_ret
      exact ⟨_, rfl, by have := HK.out; rw [List.take_length] at this; rw [this]; rfl, rfl⟩
set_option maxRecDepth 100000 in
theorem wcontains_any (ad : Option Addr) (l : List ByteArray) (c : Nat) (hr : ReadsS w ad l) (hL : l.length ≤ 1000000) :
    Calls Try.prog 40 #[.slice ad l.length c, .func (.func 41) #[] #[]] w fun e w' => e = .returned (.bool (l.any Wl.big)) ∧ w' = w := by
  have H := Lib.hid (windex_any ad l c hr hL)
  clear hr
  go_enter Try.func40, Try.ntmps40
  go_wp2_with fail
  refine H.out.mono ?_
  rintro e w1 ⟨i, rfl, hi, hw1⟩
  obtain rfl := hw1.symm; clear hw1
  have HI := Lib.hid hi
  clear hi
  go_wp2_with fail
  go_ret
  exact ⟨ret_bool HI.out, rfl⟩
/-! ### the same texts -/
set_option maxRecDepth 100000 in
set_option maxHeartbeats 800000 in
theorem sameS_any (l : List ByteArray) (a b : Option Addr) (c d : Nat) (w : World) (hl : l.length ≤ 1000000) (ha : ReadsS w a l) (hb : ReadsS w b l) :
    Calls Try.prog 17 #[.slice a l.length c, .slice b l.length d] w fun e w' => e = .returned (.bool true) ∧ Below w.heap.size w w' := by
  go_enter Try.func17, Try.ntmps17
  go_wp2
  go_loopw [5] (fun i wr => ∃ k : Nat, k ≤ l.length ∧ i = .int .i64 k ∧ ReadsS wr a l ∧ ReadsS wr b l ∧ Below w.heap.size w wr)
    (fun i _ => l.length - (intOf i).toNat)
  case atStart => exact ⟨0, by omega, rfl, ha, hb, Below.refl _ _⟩
  case round =>
    obtain ⟨k, hk, rfl, hra, hrb, hbl⟩ := hrel
    have HB := Lib.hid (And.intro hra (And.intro hrb hbl))
    by_cases hlt : k < l.length
    · obtain ⟨g1, o1, rfl, hc1⟩ := hra k hlt
      obtain ⟨g2, o2, rfl, hc2⟩ := hrb k hlt
      clear hra hrb hbl ha hb
      go_wp2
      go_quiet (fail)
      go_wp2
      go_roundw
      case rel => exact ⟨k + 1, by omega, by go_num, readsS_below HB.out.1 (below_drewN (Below.refl _ _) _), readsS_below HB.out.2.1 (below_drewN (Below.refl _ _) _), below_drewN HB.out.2.2 _⟩
      case measure => simp [intOf]; omega
    · clear hra hrb hbl ha hb
      go_wp2
      go_ret
      exact ⟨rfl, HB.out.2.2⟩
end
end Go.Proofs.Ytednmncapfclfaa
