/-
  Layer 12: a value's bytes, the program's and the document's.
-/
import Derived.Test.YtpniegglbglbcaaDoorValText
import Derived.Test.YtpniegglbglbcaaDoorOctFix
namespace Go.Proofs.YtpniegglbglbcaaDoor
open Go.RowKit
set_option maxRecDepth 100000 in
set_option maxHeartbeats 400000 in
theorem rtext12t_any (s : ByteArray) (w : World) (hs : s.size ≤ 140737488355328) :
    Calls Tryd.prog 34 #[.string s] w fun e w' => e = .returned (.string (Oct.numB s.size ++ s)) ∧ Below w.heap.size w w' := by
  have hl := Oct.numB_len (s.size : Int) (by omega) (by omega)
  go_enter Tryd.func34, Tryd.ntmps34
  go_wp2_with (go_at_call 33; refine (rnum_any _ _ (by omega) (by omega)).mono ?_; rintro e w' ⟨rfl, hb⟩; have HB := Lib.hid hb; clear hb)
  go_ret
  exact ⟨rfl, HB.out⟩
set_option maxRecDepth 100000 in
set_option maxHeartbeats 3200000 in
theorem bytesOf12_any (v : Vl.V) (hr : Vl.right v) (h0 : -9223372036854775808 ≤ v.n) (h1 : v.n ≤ 9223372036854775807) (w : World) :
    Calls Tryd.prog 28 #[valV v] w fun e w' => e = .returned (.string (Vl.bytes v)) ∧ Below w.heap.size w w' := by
  have HB := Lib.hid fun (w1 : World) (hb : Below (w.alloc (.cells (valC v) 24)).heap.size (w.alloc (.cells (valC v) 24)) w1) => box12_at v hb
  have hs40 := Vl.right_size hr
  obtain ⟨k, n, s⟩ := v
  have hE : Vl.bytes ⟨k, n, s⟩ = Oct.numB k ++ Vl.tail ⟨k, n, s⟩ := rfl
  have ck := fun w (hk0 : 0 ≤ k) (hk3 : k ≤ 3) => num_any k w (by omega) (by omega)
  have cn := fun w => num_any n w h0 h1
  have ct := fun w => text_any s w (by have h : s.size ≤ 40 := hs40; omega)
  have lk := fun (hk0 : 0 ≤ k) (hk3 : k ≤ 3) => Oct.numB_len k (by omega) (by omega)
  have ln := Oct.numB_len n h0 h1
  have ls := Oct.numB_len (s.size : Int) (by omega) (by have h : s.size ≤ 40 := hs40; omega)
  have hss : s.size ≤ 40 := hs40
  have lt : (Oct.numB s.size ++ s).size ≤ 50 := by rw [ByteArray.size_append]; omega
  rcases hr with ⟨hk, hn, hs⟩ | ⟨hk, hs⟩ | ⟨hk, hn, hs⟩ | ⟨hk, hn, hs⟩
  · simp only at hk hn hs
    have hT : Vl.tail ⟨k, n, s⟩ = Vl.mt := by subst hk; rfl
    rw [hT, Vl.append_mt] at hE
    rw [hE]
    subst hk
    have ck := fun w => ck w (by decide) (by decide)
    have lk := lk (by decide) (by decide)
    clear hE hT HB hs40 h0 h1 hn hs
    have HB := Lib.hid fun (w1 : World) (hb : Below (w.alloc (.cells (valC ⟨0, n, s⟩) 24)).heap.size (w.alloc (.cells (valC ⟨0, n, s⟩) 24)) w1) => box12_at ⟨0, n, s⟩ hb
    generalize Oct.numB 0 = K at *
    have H := Lib.hid (And.intro ck (And.intro cn ct))
    clear ck cn ct
    go_enter Tryd.func28, Tryd.ntmps28
    go_wp2_with fail
    refine (H.out.1 _).mono ?_
    rintro e w1 ⟨rfl, hb1⟩
    obtain ⟨r0, r1, r2, hbb⟩ := HB.out w1 hb1
    have H1 := Lib.hid hbb
    clear hb1 hbb
    go_wp2_with fail
    go_ret
    exact ⟨rfl, H1.out⟩
  · simp only at hk hs
    have hT : Vl.tail ⟨k, n, s⟩ = Oct.numB n := by subst hk; rfl
    rw [hT] at hE
    rw [hE]
    subst hk
    have ck := fun w => ck w (by decide) (by decide)
    have lk := lk (by decide) (by decide)
    clear hE hT HB hs40 h0 h1 hs
    have HB := Lib.hid fun (w1 : World) (hb : Below (w.alloc (.cells (valC ⟨1, n, s⟩) 24)).heap.size (w.alloc (.cells (valC ⟨1, n, s⟩) 24)) w1) => box12_at ⟨1, n, s⟩ hb
    generalize Oct.numB n = T at *
    generalize Oct.numB 1 = K at *
    have H := Lib.hid (And.intro ck (And.intro cn ct))
    clear ck cn ct
    go_enter Tryd.func28, Tryd.ntmps28
    go_wp2_with fail
    refine (H.out.1 _).mono ?_
    rintro e w1 ⟨rfl, hb1⟩
    obtain ⟨r0, r1, r2, hbb⟩ := HB.out w1 hb1
    have H1 := Lib.hid hbb
    clear hb1 hbb
    go_wp2_with fail
    refine (H.out.2.1 _).mono ?_
    rintro e w2 ⟨rfl, hb2⟩
    have H2 := Lib.hid (H1.out.trans (hb2.mono H1.out.size))
    clear hb2
    go_wp2_with fail
    go_ret
    exact ⟨rfl, H2.out⟩
  · simp only at hk hn hs
    have hT : Vl.tail ⟨k, n, s⟩ = (Oct.numB s.size ++ s) := by subst hk; rfl
    rw [hT] at hE
    rw [hE]
    subst hk
    have ck := fun w => ck w (by decide) (by decide)
    have lk := lk (by decide) (by decide)
    clear hE hT HB hs40 h0 h1 hn hs
    have HB := Lib.hid fun (w1 : World) (hb : Below (w.alloc (.cells (valC ⟨2, n, s⟩) 24)).heap.size (w.alloc (.cells (valC ⟨2, n, s⟩) 24)) w1) => box12_at ⟨2, n, s⟩ hb
    generalize (Oct.numB s.size ++ s) = T at *
    generalize Oct.numB 2 = K at *
    have H := Lib.hid (And.intro ck (And.intro cn ct))
    clear ck cn ct
    go_enter Tryd.func28, Tryd.ntmps28
    go_wp2_with fail
    refine (H.out.1 _).mono ?_
    rintro e w1 ⟨rfl, hb1⟩
    obtain ⟨r0, r1, r2, hbb⟩ := HB.out w1 hb1
    have H1 := Lib.hid hbb
    clear hb1 hbb
    go_wp2_with fail
    refine (H.out.2.2 _).mono ?_
    rintro e w2 ⟨rfl, hb2⟩
    have H2 := Lib.hid (H1.out.trans (hb2.mono H1.out.size))
    clear hb2
    go_wp2_with fail
    go_ret
    exact ⟨rfl, H2.out⟩
  · simp only at hk hn hs
    have hT : Vl.tail ⟨k, n, s⟩ = Oct.numB n := by subst hk; rfl
    rw [hT] at hE
    rw [hE]
    subst hk
    have ck := fun w => ck w (by decide) (by decide)
    have lk := lk (by decide) (by decide)
    clear hE hT HB hs40 h0 h1 hn hs
    have HB := Lib.hid fun (w1 : World) (hb : Below (w.alloc (.cells (valC ⟨3, n, s⟩) 24)).heap.size (w.alloc (.cells (valC ⟨3, n, s⟩) 24)) w1) => box12_at ⟨3, n, s⟩ hb
    generalize Oct.numB n = T at *
    generalize Oct.numB 3 = K at *
    have H := Lib.hid (And.intro ck (And.intro cn ct))
    clear ck cn ct
    go_enter Tryd.func28, Tryd.ntmps28
    go_wp2_with fail
    refine (H.out.1 _).mono ?_
    rintro e w1 ⟨rfl, hb1⟩
    obtain ⟨r0, r1, r2, hbb⟩ := HB.out w1 hb1
    have H1 := Lib.hid hbb
    clear hb1 hbb
    go_wp2_with fail
    refine (H.out.2.1 _).mono ?_
    rintro e w2 ⟨rfl, hb2⟩
    have H2 := Lib.hid (H1.out.trans (hb2.mono H1.out.size))
    clear hb2
    go_wp2_with fail
    go_ret
    exact ⟨rfl, H2.out⟩
set_option maxRecDepth 100000 in
set_option maxHeartbeats 3200000 in
theorem rbytes12_any (v : Vl.V) (hr : Vl.right v) (h0 : -9223372036854775808 ≤ v.n) (h1 : v.n ≤ 9223372036854775807) (w : World) :
    Calls Tryd.prog 14 #[valV v] w fun e w' => e = .returned (.string (Vl.bytes v)) ∧ Below w.heap.size w w' := by
  have HB := Lib.hid fun (w1 : World) (hb : Below (w.alloc (.cells (valC v) 24)).heap.size (w.alloc (.cells (valC v) 24)) w1) => box12_at v hb
  have hs40 := Vl.right_size hr
  obtain ⟨k, n, s⟩ := v
  have hE : Vl.bytes ⟨k, n, s⟩ = Oct.numB k ++ Vl.tail ⟨k, n, s⟩ := rfl
  have ck := fun w (hk0 : 0 ≤ k) (hk3 : k ≤ 3) => rnum_any k w (by omega) (by omega)
  have cn := fun w => rnum_any n w h0 h1
  have ct := fun w => rtext12t_any s w (by have h : s.size ≤ 40 := hs40; omega)
  have lk := fun (hk0 : 0 ≤ k) (hk3 : k ≤ 3) => Oct.numB_len k (by omega) (by omega)
  have ln := Oct.numB_len n h0 h1
  have ls := Oct.numB_len (s.size : Int) (by omega) (by have h : s.size ≤ 40 := hs40; omega)
  have hss : s.size ≤ 40 := hs40
  have lt : (Oct.numB s.size ++ s).size ≤ 50 := by rw [ByteArray.size_append]; omega
  rcases hr with ⟨hk, hn, hs⟩ | ⟨hk, hs⟩ | ⟨hk, hn, hs⟩ | ⟨hk, hn, hs⟩
  · simp only at hk hn hs
    have hT : Vl.tail ⟨k, n, s⟩ = Vl.mt := by subst hk; rfl
    rw [hT, Vl.append_mt] at hE
    rw [hE]
    subst hk
    have ck := fun w => ck w (by decide) (by decide)
    have lk := lk (by decide) (by decide)
    clear hE hT HB hs40 h0 h1 hn hs
    have HB := Lib.hid fun (w1 : World) (hb : Below (w.alloc (.cells (valC ⟨0, n, s⟩) 24)).heap.size (w.alloc (.cells (valC ⟨0, n, s⟩) 24)) w1) => box12_at ⟨0, n, s⟩ hb
    generalize Oct.numB 0 = K at *
    have H := Lib.hid (And.intro ck (And.intro cn ct))
    clear ck cn ct
    go_enter Tryd.func14, Tryd.ntmps14
    go_wp2_with fail
    refine (H.out.1 _).mono ?_
    rintro e w1 ⟨rfl, hb1⟩
    obtain ⟨r0, r1, r2, hbb⟩ := HB.out w1 hb1
    have H1 := Lib.hid hbb
    clear hb1 hbb
    go_wp2_with fail
    go_ret
    exact ⟨rfl, H1.out⟩
  · simp only at hk hs
    have hT : Vl.tail ⟨k, n, s⟩ = Oct.numB n := by subst hk; rfl
    rw [hT] at hE
    rw [hE]
    subst hk
    have ck := fun w => ck w (by decide) (by decide)
    have lk := lk (by decide) (by decide)
    clear hE hT HB hs40 h0 h1 hs
    have HB := Lib.hid fun (w1 : World) (hb : Below (w.alloc (.cells (valC ⟨1, n, s⟩) 24)).heap.size (w.alloc (.cells (valC ⟨1, n, s⟩) 24)) w1) => box12_at ⟨1, n, s⟩ hb
    generalize Oct.numB n = T at *
    generalize Oct.numB 1 = K at *
    have H := Lib.hid (And.intro ck (And.intro cn ct))
    clear ck cn ct
    go_enter Tryd.func14, Tryd.ntmps14
    go_wp2_with fail
    refine (H.out.1 _).mono ?_
    rintro e w1 ⟨rfl, hb1⟩
    obtain ⟨r0, r1, r2, hbb⟩ := HB.out w1 hb1
    have H1 := Lib.hid hbb
    clear hb1 hbb
    go_wp2_with fail
    refine (H.out.2.1 _).mono ?_
    rintro e w2 ⟨rfl, hb2⟩
    have H2 := Lib.hid (H1.out.trans (hb2.mono H1.out.size))
    clear hb2
    go_wp2_with fail
    go_ret
    exact ⟨rfl, H2.out⟩
  · simp only at hk hn hs
    have hT : Vl.tail ⟨k, n, s⟩ = (Oct.numB s.size ++ s) := by subst hk; rfl
    rw [hT] at hE
    rw [hE]
    subst hk
    have ck := fun w => ck w (by decide) (by decide)
    have lk := lk (by decide) (by decide)
    clear hE hT HB hs40 h0 h1 hn hs
    have HB := Lib.hid fun (w1 : World) (hb : Below (w.alloc (.cells (valC ⟨2, n, s⟩) 24)).heap.size (w.alloc (.cells (valC ⟨2, n, s⟩) 24)) w1) => box12_at ⟨2, n, s⟩ hb
    generalize (Oct.numB s.size ++ s) = T at *
    generalize Oct.numB 2 = K at *
    have H := Lib.hid (And.intro ck (And.intro cn ct))
    clear ck cn ct
    go_enter Tryd.func14, Tryd.ntmps14
    go_wp2_with fail
    refine (H.out.1 _).mono ?_
    rintro e w1 ⟨rfl, hb1⟩
    obtain ⟨r0, r1, r2, hbb⟩ := HB.out w1 hb1
    have H1 := Lib.hid hbb
    clear hb1 hbb
    go_wp2_with fail
    refine (H.out.2.2 _).mono ?_
    rintro e w2 ⟨rfl, hb2⟩
    have H2 := Lib.hid (H1.out.trans (hb2.mono H1.out.size))
    clear hb2
    go_wp2_with fail
    go_ret
    exact ⟨rfl, H2.out⟩
  · simp only at hk hn hs
    have hT : Vl.tail ⟨k, n, s⟩ = Oct.numB n := by subst hk; rfl
    rw [hT] at hE
    rw [hE]
    subst hk
    have ck := fun w => ck w (by decide) (by decide)
    have lk := lk (by decide) (by decide)
    clear hE hT HB hs40 h0 h1 hn hs
    have HB := Lib.hid fun (w1 : World) (hb : Below (w.alloc (.cells (valC ⟨3, n, s⟩) 24)).heap.size (w.alloc (.cells (valC ⟨3, n, s⟩) 24)) w1) => box12_at ⟨3, n, s⟩ hb
    generalize Oct.numB n = T at *
    generalize Oct.numB 3 = K at *
    have H := Lib.hid (And.intro ck (And.intro cn ct))
    clear ck cn ct
    go_enter Tryd.func14, Tryd.ntmps14
    go_wp2_with fail
    refine (H.out.1 _).mono ?_
    rintro e w1 ⟨rfl, hb1⟩
    obtain ⟨r0, r1, r2, hbb⟩ := HB.out w1 hb1
    have H1 := Lib.hid hbb
    clear hb1 hbb
    go_wp2_with fail
    refine (H.out.2.1 _).mono ?_
    rintro e w2 ⟨rfl, hb2⟩
    have H2 := Lib.hid (H1.out.trans (hb2.mono H1.out.size))
    clear hb2
    go_wp2_with fail
    go_ret
    exact ⟨rfl, H2.out⟩
/-- what Bytes tells -/
def bytesB (v : Vl.V) : ByteArray := if Vl.right v then Vl.bytes v else Vl.mt
theorem bytesB_ok {v : Vl.V} (h : Vl.right v) : bytesB v = Vl.bytes v := if_pos h
theorem bytesB_bad {v : Vl.V} (h : ¬ Vl.right v) : bytesB v = Vl.mt := if_neg h
set_option maxRecDepth 100000 in
set_option maxHeartbeats 3200000 in
theorem bytes12_any (v : Vl.V) (h0 : -9223372036854775808 ≤ v.n) (h1 : v.n ≤ 9223372036854775807) (w : World) :
    Calls Tryd.prog 10 #[valV v] w fun e w' => e = .returned (.tuple #[.string (bytesB v), .int .i64 (checkE v)]) ∧ Below w.heap.size w w' := by
  have cC := check12_any v
  have HB := Lib.hid fun (w1 : World) (hb : Below (w.alloc (.cells (valC v) 24)).heap.size (w.alloc (.cells (valC v) 24)) w1) => box12_at v hb
  by_cases hr : Vl.right v
  · have hE := checkE_ok hr
    rw [hE] at cC ⊢
    rw [bytesB_ok hr]
    have cB := bytesOf12_any v hr h0 h1
    obtain ⟨k, n, s⟩ := v
    have HC := Lib.hid (And.intro cC cB)
    clear cC cB hE hr
    generalize Vl.bytes _ = BB at *
    go_enter Tryd.func10, Tryd.ntmps10
    go_wp2_with fail
    refine (HC.out.1 _).mono ?_
    rintro e w1 ⟨rfl, hb1⟩
    obtain ⟨r0, r1, r2, hbb⟩ := HB.out w1 hb1
    have H1 := Lib.hid hbb
    clear hb1 hbb
    go_wp2_with fail
    refine (HC.out.2 _).mono ?_
    rintro e w2 ⟨rfl, hb2⟩
    have H2 := Lib.hid (H1.out.trans (hb2.mono H1.out.size))
    clear hb2
    go_wp2_with fail
    go_ret2
    exact ⟨rfl, H2.out⟩
  · have hE := checkE_bad hr
    rw [hE] at cC ⊢
    rw [bytesB_bad hr]
    have HC := Lib.hid cC
    clear cC hE hr
    go_enter Tryd.func10, Tryd.ntmps10
    go_wp2_with fail
    refine (HC.out _).mono ?_
    rintro e w1 ⟨rfl, hb1⟩
    obtain ⟨r0, r1, r2, hbb⟩ := HB.out w1 hb1
    have H1 := Lib.hid hbb
    clear hb1 hbb
    go_wp2_with fail
    go_ret2
    exact ⟨rfl, H1.out⟩
end Go.Proofs.YtpniegglbglbcaaDoor
