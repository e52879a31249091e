/-
  Layer 13, the program's: reserved words, and names.
-/
import Derived.Test.YtmpfnokddpbgcaaDoorZLexProg6
import Derived.Test.YtmpfnokddpbgcaaDoorZLexName
import Derived.Deep.Cut
namespace Go.Proofs.YtmpfnokddpbgcaaDoor
open Go.RowKit
theorem res_ne {s : ByteArray} {m : List UInt8} (h : ¬ s = ⟨m.toArray⟩) : (s.toList == m) = false := by
  have h2 : ¬ s.toList = m := fun e => h (Sl.ba_ext (by rw [← ByteArray.toList_eq, e]))
  simpa using h2
set_option maxRecDepth 100000 in
set_option maxHeartbeats 1600000 in
theorem res13_0 (w : World) : Calls Tryd.prog 19 #[.string ⟨#[97, 110, 100]⟩] w fun e w' => e = .returned (.bool (Lx.reserved (⟨#[97, 110, 100]⟩ : ByteArray).data.toList)) ∧ w' = w := by
  have HE : Hid (Lx.reserved (⟨#[97, 110, 100]⟩ : ByteArray).data.toList = true) := Lib.hid (by decide)
  go_enter Tryd.func19, Tryd.ntmps19
  go_wp2_with fail
  go_ret
  exact ⟨ret_bool HE.out.symm, rfl⟩
set_option maxRecDepth 100000 in
set_option maxHeartbeats 1600000 in
theorem res13_1 (w : World) : Calls Tryd.prog 19 #[.string ⟨#[111, 114]⟩] w fun e w' => e = .returned (.bool (Lx.reserved (⟨#[111, 114]⟩ : ByteArray).data.toList)) ∧ w' = w := by
  have HE : Hid (Lx.reserved (⟨#[111, 114]⟩ : ByteArray).data.toList = true) := Lib.hid (by decide)
  go_enter Tryd.func19, Tryd.ntmps19
  go_wp2_with fail
  go_ret
  exact ⟨ret_bool HE.out.symm, rfl⟩
set_option maxRecDepth 100000 in
set_option maxHeartbeats 1600000 in
theorem res13_2 (w : World) : Calls Tryd.prog 19 #[.string ⟨#[110, 111, 116]⟩] w fun e w' => e = .returned (.bool (Lx.reserved (⟨#[110, 111, 116]⟩ : ByteArray).data.toList)) ∧ w' = w := by
  have HE : Hid (Lx.reserved (⟨#[110, 111, 116]⟩ : ByteArray).data.toList = true) := Lib.hid (by decide)
  go_enter Tryd.func19, Tryd.ntmps19
  go_wp2_with fail
  go_ret
  exact ⟨ret_bool HE.out.symm, rfl⟩
set_option maxRecDepth 100000 in
set_option maxHeartbeats 1600000 in
theorem res13_3 (w : World) : Calls Tryd.prog 19 #[.string ⟨#[105, 102]⟩] w fun e w' => e = .returned (.bool (Lx.reserved (⟨#[105, 102]⟩ : ByteArray).data.toList)) ∧ w' = w := by
  have HE : Hid (Lx.reserved (⟨#[105, 102]⟩ : ByteArray).data.toList = true) := Lib.hid (by decide)
  go_enter Tryd.func19, Tryd.ntmps19
  go_wp2_with fail
  go_ret
  exact ⟨ret_bool HE.out.symm, rfl⟩
set_option maxRecDepth 100000 in
set_option maxHeartbeats 1600000 in
theorem res13_4 (w : World) : Calls Tryd.prog 19 #[.string ⟨#[116, 104, 101, 110]⟩] w fun e w' => e = .returned (.bool (Lx.reserved (⟨#[116, 104, 101, 110]⟩ : ByteArray).data.toList)) ∧ w' = w := by
  have HE : Hid (Lx.reserved (⟨#[116, 104, 101, 110]⟩ : ByteArray).data.toList = true) := Lib.hid (by decide)
  go_enter Tryd.func19, Tryd.ntmps19
  go_wp2_with fail
  go_ret
  exact ⟨ret_bool HE.out.symm, rfl⟩
set_option maxRecDepth 100000 in
set_option maxHeartbeats 1600000 in
theorem res13_5 (w : World) : Calls Tryd.prog 19 #[.string ⟨#[101, 108, 115, 101]⟩] w fun e w' => e = .returned (.bool (Lx.reserved (⟨#[101, 108, 115, 101]⟩ : ByteArray).data.toList)) ∧ w' = w := by
  have HE : Hid (Lx.reserved (⟨#[101, 108, 115, 101]⟩ : ByteArray).data.toList = true) := Lib.hid (by decide)
  go_enter Tryd.func19, Tryd.ntmps19
  go_wp2_with fail
  go_ret
  exact ⟨ret_bool HE.out.symm, rfl⟩
set_option maxRecDepth 100000 in
set_option maxHeartbeats 1600000 in
theorem res13_6 (w : World) : Calls Tryd.prog 19 #[.string ⟨#[116, 114, 117, 101]⟩] w fun e w' => e = .returned (.bool (Lx.reserved (⟨#[116, 114, 117, 101]⟩ : ByteArray).data.toList)) ∧ w' = w := by
  have HE : Hid (Lx.reserved (⟨#[116, 114, 117, 101]⟩ : ByteArray).data.toList = true) := Lib.hid (by decide)
  go_enter Tryd.func19, Tryd.ntmps19
  go_wp2_with fail
  go_ret
  exact ⟨ret_bool HE.out.symm, rfl⟩
set_option maxRecDepth 100000 in
set_option maxHeartbeats 1600000 in
theorem res13_7 (w : World) : Calls Tryd.prog 19 #[.string ⟨#[102, 97, 108, 115, 101]⟩] w fun e w' => e = .returned (.bool (Lx.reserved (⟨#[102, 97, 108, 115, 101]⟩ : ByteArray).data.toList)) ∧ w' = w := by
  have HE : Hid (Lx.reserved (⟨#[102, 97, 108, 115, 101]⟩ : ByteArray).data.toList = true) := Lib.hid (by decide)
  go_enter Tryd.func19, Tryd.ntmps19
  go_wp2_with fail
  go_ret
  exact ⟨ret_bool HE.out.symm, rfl⟩
set_option maxRecDepth 100000 in
set_option maxHeartbeats 1600000 in
theorem res13_8 (w : World) : Calls Tryd.prog 19 #[.string ⟨#[110, 117, 108, 108]⟩] w fun e w' => e = .returned (.bool (Lx.reserved (⟨#[110, 117, 108, 108]⟩ : ByteArray).data.toList)) ∧ w' = w := by
  have HE : Hid (Lx.reserved (⟨#[110, 117, 108, 108]⟩ : ByteArray).data.toList = true) := Lib.hid (by decide)
  go_enter Tryd.func19, Tryd.ntmps19
  go_wp2_with fail
  go_ret
  exact ⟨ret_bool HE.out.symm, rfl⟩
set_option maxRecDepth 100000 in
set_option maxHeartbeats 3200000 in
theorem reserved13_any (s : ByteArray) (w : World) : Calls Tryd.prog 19 #[.string s] w fun e w' => e = .returned (.bool (Lx.reserved s.data.toList)) ∧ w' = w := by
  by_cases h0 : s = ⟨#[97, 110, 100]⟩
  · subst h0
    exact res13_0 w
  · by_cases h1 : s = ⟨#[111, 114]⟩
    · subst h1
      exact res13_1 w
    · by_cases h2 : s = ⟨#[110, 111, 116]⟩
      · subst h2
        exact res13_2 w
      · by_cases h3 : s = ⟨#[105, 102]⟩
        · subst h3
          exact res13_3 w
        · by_cases h4 : s = ⟨#[116, 104, 101, 110]⟩
          · subst h4
            exact res13_4 w
          · by_cases h5 : s = ⟨#[101, 108, 115, 101]⟩
            · subst h5
              exact res13_5 w
            · by_cases h6 : s = ⟨#[116, 114, 117, 101]⟩
              · subst h6
                exact res13_6 w
              · by_cases h7 : s = ⟨#[102, 97, 108, 115, 101]⟩
                · subst h7
                  exact res13_7 w
                · by_cases h8 : s = ⟨#[110, 117, 108, 108]⟩
                  · subst h8
                    exact res13_8 w
                  · have HE : Hid (Lx.reserved s.data.toList = false) := Lib.hid (decide_eq_false (by
                      intro hm
                      simp only [Lx.words, List.mem_cons, List.not_mem_nil, or_false] at hm
                      rcases hm with hm | hm | hm | hm | hm | hm | hm | hm | hm
                      · exact h0 (Sl.ba_ext hm)
                      · exact h1 (Sl.ba_ext hm)
                      · exact h2 (Sl.ba_ext hm)
                      · exact h3 (Sl.ba_ext hm)
                      · exact h4 (Sl.ba_ext hm)
                      · exact h5 (Sl.ba_ext hm)
                      · exact h6 (Sl.ba_ext hm)
                      · exact h7 (Sl.ba_ext hm)
                      · exact h8 (Sl.ba_ext hm)))
                    have t0 : (s.toList == [97, 110, 100]) = false := res_ne h0
                    have t1 : (s.toList == [111, 114]) = false := res_ne h1
                    have t2 : (s.toList == [110, 111, 116]) = false := res_ne h2
                    have t3 : (s.toList == [105, 102]) = false := res_ne h3
                    have t4 : (s.toList == [116, 104, 101, 110]) = false := res_ne h4
                    have t5 : (s.toList == [101, 108, 115, 101]) = false := res_ne h5
                    have t6 : (s.toList == [116, 114, 117, 101]) = false := res_ne h6
                    have t7 : (s.toList == [102, 97, 108, 115, 101]) = false := res_ne h7
                    have t8 : (s.toList == [110, 117, 108, 108]) = false := res_ne h8
                    clear h0 h1 h2 h3 h4 h5 h6 h7 h8
                    go_enter Tryd.func19, Tryd.ntmps19
                    go_wp2_with fail
                    go_ret
                    exact ⟨ret_bool HE.out.symm, rfl⟩
end Go.Proofs.YtmpfnokddpbgcaaDoor
