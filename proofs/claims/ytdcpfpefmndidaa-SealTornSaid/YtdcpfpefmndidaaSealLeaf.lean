/-
  Layer 5: leaves: zeros, the numbers of both halves, the length, the text, whether a block is empty.
-/
import Derived.Test.YtdcpfpefmndidaaSealMath
import Derived.Test.YtdcpfpefmndidaaCopyStr
import Derived.Test.YtdcpfpefmndidaaOctRead
import Derived.Test.YtdcpfpefmndidaaCrcSeal
import Derived.Test.YtdcpfpefmndidaaOctOwn
import Derived.OwnWalk
import Derived.Sort.AtCall
namespace Go.Proofs.Ytdcpfpefmndidaa
open Go.RowKit

theorem ba_eq {a b : ByteArray} (h : a.toList = b.toList) : a = b := by
  rw [ByteArray.toList_eq, ByteArray.toList_eq] at h; exact Go.WideShapes.bytes_inj h
theorem ba_beq {a b : ByteArray} : (a.toList == b.toList) = decide (a = b) := by
  rw [Bool.eq_iff_iff, beq_iff_eq, decide_eq_true_iff]
  exact ⟨ba_eq, fun h => by rw [h]⟩
/-- so many bytes 0 -/
def Sl.zer (n : Nat) : ByteArray := ⟨(List.replicate n 0).toArray⟩
theorem Sl.zer_size (n : Nat) : (Sl.zer n).size = n := by rw [Sl.size_list]; exact List.length_replicate

set_option maxRecDepth 100000 in
set_option maxHeartbeats 800000 in
theorem zeros_any (n : Nat) (hn : n ≤ 4096) (w : World) :
    Calls Try.prog 20 #[.int .i64 (n : Int)] w fun e w' => e = .returned (.string (Sl.zer n)) ∧ Below w.heap.size w w' := by
  obtain ⟨i0, hi, hz0, hz1, hz2⟩ := info_parts Try.info5
  have hmb : i0.bytes * n ≤ 281474976710656 := by rw [hz2]; omega
  have hml : n ≤ maxLen := by unfold maxLen; omega
  have HI := Lib.hid (And.intro hi (And.intro hz0 (And.intro hz1 (And.intro hmb hml))))
  clear hi hz0 hz1 hz2 hmb hml
  go_enter Try.func20, Try.ntmps20
  go_wp2_with (at_make; go_loud (refine wpList_make_full _ rfl _ _ 37 rfl w.heap.size 5 i0 (.int .u8 0) 1 Try.underlying37 HI.out.1 HI.out.2.1 HI.out.2.2.1 .i64 .i64 _ _ n rfl rfl (by omega) (by omega) HI.out.2.2.2.1 HI.out.2.2.2.2 (Nat.le_refl _) ?_))
  intro w1 hown hgrow
  have ho : OwnsB w1 w.heap.size 5 _ (List.replicate n 0) := ownsB_made hown
  have hb : Below w.heap.size w w1 := (Below.refl _ w).grown hgrow (Nat.le_refl _) (by simp)
  have hconv := ownsB_conv (P := Try.prog) (src := 37) (dst := 9) ho Try.underlying37 Try.underlying5 Try.underlying9
  have HF := Lib.hid hb
  clear ho hb hown hgrow
  go_wp2
  go_ret
  exact ⟨rfl, HF.out⟩

theorem right5_any (n : Int) (w : World) :
    Calls Try.prog 14 #[.int .i64 n] w fun e w' => e = .returned (.bool (decide (1 ≤ n ∧ n ≤ 4611686018427387904))) ∧ w = w' := by
  by_cases h1 : 1 ≤ n
  · by_cases h2 : n ≤ 4611686018427387904
    · have e : decide (1 ≤ n ∧ n ≤ 4611686018427387904) = true := decide_eq_true ⟨h1, h2⟩
      rw [e]
      clear e
      go_enter Try.func14, Try.ntmps14
      go_wp2
      go_ret
      exact ⟨by simp, rfl⟩
    · have e : decide (1 ≤ n ∧ n ≤ 4611686018427387904) = false := decide_eq_false fun h => h2 h.2
      rw [e]
      clear e
      go_enter Try.func14, Try.ntmps14
      go_wp2
      go_ret
      exact ⟨by simp, rfl⟩
  · have e : decide (1 ≤ n ∧ n ≤ 4611686018427387904) = false := decide_eq_false fun h => h1 h.1
    rw [e]
    clear e
    go_enter Try.func14, Try.ntmps14
    go_wp2
    go_ret
    exact ⟨by simp, rfl⟩

theorem Sl.one_rd (b : ByteArray) : Oct.rd b = Sl.one b := by
  unfold Sl.one
  rw [Sl.rd_eq b _ rfl, Sl.rd_eq (b.extract 0 8) _ rfl, Sl.ext_first, List.take_take]; rfl
theorem Sl.take_min (r : List UInt8) (k n : Nat) (h : r.length = n) : r.take (min k n) = r.take k := by
  subst h; rw [← List.take_take, List.take_of_length_le (Nat.le_refl r.length)]
theorem Sl.two_rd (b : ByteArray) : Oct.rd (b.extract 256 b.size) = Sl.two b := by
  have hl : (b.data.toList.drop 256).length = b.size - 256 := by rw [List.length_drop, ← Sl.size_list]
  unfold Sl.two
  rw [Sl.rd_eq (b.extract 256 b.size) _ rfl, Sl.rd_eq (b.extract 256 264) _ rfl, Sl.ext_list, Sl.ext_list]
  generalize b.data.toList.drop 256 = r at hl
  rw [List.take_take, List.take_take, Sl.take_min r 8 _ hl]; rfl

set_option maxRecDepth 100000 in
set_option maxHeartbeats 800000 in
theorem halves_any (b : ByteArray) (hb : b.size ≤ maxLen) (w : World) :
    Calls Try.prog 12 #[.string b] w fun e w' => e = .returned (.tuple #[.int .i64 (Sl.halves b).1, .int .i64 (Sl.halves b).2]) ∧ ∃ n, w' = w.drewN n := by
  by_cases h : b.size = 512
  · have e : Sl.halves b = (Sl.one b, Sl.two b) := by unfold Sl.halves; rw [if_pos h]
    have e1 := Sl.one_rd b
    have e2 := Sl.two_rd b
    rw [h] at e2
    rw [e, ← e1, ← e2]
    have z2 : (b.extract 256 512).size ≤ maxLen := by rw [ByteArray.size_extract]; unfold maxLen; omega
    have c1 := fun w => (read_any b w hb).mono fun _ _ h => And.intro h.1 h.2.symm
    have c2 := fun w => (read_any (b.extract 256 512) w z2).mono fun _ _ h => And.intro h.1 h.2.symm
    generalize Oct.rd b = X at c1 ⊢
    generalize Oct.rd (b.extract 256 512) = Y at c2 ⊢
    have H := Lib.hid (And.intro c1 c2)
    clear c1 c2 e e1 e2 z2
    have t1 : ((b.size : Int) != 512) = false := by rw [h]; rfl
    have t2 : (256 : Int) ≤ (b.size : Int) := by omega
    go_enter Try.func12, Try.ntmps12
    go_wp2_with fail
    go_quiet (first
      | (go_at_call_has 22 (Value.string b); exact Calls.quiet_of_same (H.out.1 _))
      | (go_at_call_has 22 (Value.string (b.extract 256 512)); exact Calls.quiet_of_same (H.out.2 _)))
    go_wp2_with fail
    go_ret2
    exact ⟨rfl, _, rfl⟩
  · have e : Sl.halves b = (0, 0) := by unfold Sl.halves; rw [if_neg h]
    rw [e]
    have t1 : ((b.size : Int) != 512) = true := by simpa using (by omega : ¬ (b.size : Int) = 512)
    clear e
    go_enter Try.func12, Try.ntmps12
    go_wp2_with fail
    go_ret2
    exact ⟨rfl, 0, rfl⟩

set_option maxRecDepth 100000 in
set_option maxHeartbeats 800000 in
theorem rhalves_any (b : ByteArray) (_hb : b.size ≤ maxLen) (w : World) :
    Calls Try.prog 13 #[.string b] w fun e w' => e = .returned (.tuple #[.int .i64 (Sl.halves b).1, .int .i64 (Sl.halves b).2]) ∧ ∃ n, w' = w.drewN n := by
  by_cases h : b.size = 512
  · have e : Sl.halves b = (Sl.one b, Sl.two b) := by unfold Sl.halves; rw [if_pos h]
    rw [e]
    unfold Sl.one Sl.two
    have z1 : (b.extract 0 8).size ≤ maxLen := by rw [ByteArray.size_extract]; unfold maxLen; omega
    have z2 : (b.extract 256 264).size ≤ maxLen := by rw [ByteArray.size_extract]; unfold maxLen; omega
    have c1 := fun w => (rread_any (b.extract 0 8) w z1).mono fun _ _ h => And.intro h.1 h.2.symm
    have c2 := fun w => (rread_any (b.extract 256 264) w z2).mono fun _ _ h => And.intro h.1 h.2.symm
    generalize Oct.rd (b.extract 0 8) = X at c1 ⊢
    generalize Oct.rd (b.extract 256 264) = Y at c2 ⊢
    have H := Lib.hid (And.intro c1 c2)
    clear c1 c2 e z1 z2
    have t1 : ((b.size : Int) != 512) = false := by rw [h]; rfl
    have t2 : (264 : Int) ≤ (b.size : Int) := by omega
    have t3 : (8 : Int) ≤ (b.size : Int) := by omega
    go_enter Try.func13, Try.ntmps13
    go_wp2_with fail
    go_quiet (first
      | (go_at_call_has 21 (Value.string (b.extract 0 8)); exact Calls.quiet_of_same (H.out.1 _))
      | (go_at_call_has 21 (Value.string (b.extract 256 264)); exact Calls.quiet_of_same (H.out.2 _)))
    go_wp2_with fail
    go_ret2
    exact ⟨rfl, _, rfl⟩
  · have e : Sl.halves b = (0, 0) := by unfold Sl.halves; rw [if_neg h]
    rw [e]
    have t1 : ((b.size : Int) != 512) = true := by simpa using (by omega : ¬ (b.size : Int) = 512)
    clear e
    go_enter Try.func13, Try.ntmps13
    go_wp2_with fail
    go_ret2
    exact ⟨rfl, 0, rfl⟩

/-- how long the block says that its text is -/
theorem Sl.len_bound (b : ByteArray) : 0 ≤ Sl.len b ∧ Sl.len b ≤ 65535 := by
  unfold Sl.len
  rw [Sl.rd_eq (b.extract 8 10) _ rfl, Sl.ext_list, List.take_take]
  have h : ((b.data.toList.drop 8).take (min 8 (10 - 8))).length ≤ 2 := by rw [List.length_take]; omega
  generalize (b.data.toList.drop 8).take (min 8 (10 - 8)) = l at h
  have h2 := Oct.be_lt l
  have h3 : 2 ^ (l.length * 8) ≤ 2 ^ 16 := Nat.pow_le_pow_right (by omega) (by omega)
  rw [IntKind.wrap_i64]
  omega
set_option maxRecDepth 100000 in
theorem length_any (b : ByteArray) (hb : b.size = 512) (w : World) :
    Calls Try.prog 18 #[.string b] w fun e w' => e = .returned (.int .i64 (Sl.len b)) ∧ w' = w := by
  have z1 : (b.extract 8 10).size ≤ maxLen := by rw [ByteArray.size_extract]; unfold maxLen; omega
  have c1 := fun w => read_any (b.extract 8 10) w z1
  unfold Sl.len
  generalize Oct.rd (b.extract 8 10) = X at c1 ⊢
  have H := Lib.hid c1
  clear c1 z1
  have t2 : (10 : Int) ≤ (b.size : Int) := by omega
  go_enter Try.func18, Try.ntmps18
  go_wp2_with fail
  refine (H.out _).mono ?_
  rintro e w1 ⟨rfl, hw⟩
  subst hw
  go_wp2_with fail
  go_ret
  exact ⟨rfl, rfl⟩

/-- the text, cut out in two parts -/
def Sl.txt (b : ByteArray) : ByteArray := (Sl.all b).extract 0 (Sl.len b).toNat
theorem Sl.ext_app (b : ByteArray) (i j k l : Nat) : (b.extract i j ++ b.extract k l).data.toList = (b.data.toList.drop i).take (j - i) ++ (b.data.toList.drop k).take (l - k) := by
  rw [ByteArray.data_append, Array.toList_append, Sl.ext_list, Sl.ext_list]
theorem Sl.txt_short (b : ByteArray) (hb : b.size = 512) (n : Nat) (h : n ≤ 246) : b.extract 10 (10 + n) = (Sl.all b).extract 0 n := by
  apply Sl.ba_ext
  have hl : ((b.data.toList.drop 10).take 246).length = 246 := by rw [List.length_take, List.length_drop, ← Sl.size_list]; omega
  rw [Sl.ext_list, Sl.ext_first]
  unfold Sl.all
  rw [Sl.ext_app, show 256 - 10 = 246 from rfl, List.take_append_of_le_length (by omega), List.take_take, show min n 246 = n by omega, show 10 + n - 10 = n by omega]
theorem Sl.txt_long (b : ByteArray) (hb : b.size = 512) (n : Nat) (h : 246 ≤ n) (h2 : n ≤ 490) : b.extract 10 256 ++ b.extract 264 (264 + n - 246) = (Sl.all b).extract 0 n := by
  apply Sl.ba_ext
  have hl : ((b.data.toList.drop 10).take 246).length = 246 := by rw [List.length_take, List.length_drop, ← Sl.size_list]; omega
  rw [Sl.ext_app, Sl.ext_first]
  unfold Sl.all
  rw [Sl.ext_app, show 256 - 10 = 246 from rfl, show 508 - 264 = 244 from rfl, List.take_append, hl, List.take_of_length_le (by omega : ((b.data.toList.drop 10).take 246).length ≤ n), List.take_take, show min (n - 246) 244 = 264 + n - 246 - 264 by omega]
set_option maxRecDepth 100000 in
set_option maxHeartbeats 800000 in
theorem text5_any (b : ByteArray) (hb : b.size = 512) (hl : Sl.len b ≤ 490) (w : World) :
    Calls Try.prog 19 #[.string b] w fun e w' => e = .returned (.string (Sl.txt b)) ∧ ∃ n, w' = w.drewN n := by
  obtain ⟨n, hn⟩ : ∃ n : Nat, Sl.len b = (n : Int) := ⟨_, (Int.toNat_of_nonneg (Sl.len_bound b).1).symm⟩
  have c1 := fun w => length_any b hb w
  have e : Sl.txt b = (Sl.all b).extract 0 n := by unfold Sl.txt; rw [hn, Int.toNat_natCast]
  rw [hn] at c1 hl
  rw [e]
  have hn490 : n ≤ 490 := by omega
  by_cases h : n ≤ 246
  · rw [← Sl.txt_short b hb n h]
    have H := Lib.hid c1
    have m : min (n : Int) 246 = (n : Int) := by omega
    clear c1 e hn
    have t1 : (10 : Int) ≤ 10 + (n : Int) := by omega
    have t2 : 10 + (n : Int) ≤ (b.size : Int) := by omega
    have t3 : (264 : Int) ≤ (b.size : Int) := by omega
    have t4 : (264 : Int) + (n : Int) - (n : Int) = 264 := by omega
    go_enter Try.func19, Try.ntmps19
    go_wp2_with fail
    refine (H.out _).mono ?_
    rintro e w1 ⟨rfl, hw⟩
    subst hw
    go_wp2_with fail
    go_quiet (fail)
    go_wp2_with fail
    go_ret
    exact ⟨rfl, _, rfl⟩
  · rw [← Sl.txt_long b hb n (by omega) hn490]
    have H := Lib.hid c1
    have m : min (n : Int) 246 = 246 := by omega
    clear c1 e hn
    have t1 : (264 : Int) ≤ 264 + (n : Int) - 246 := by omega
    have t2 : 264 + (n : Int) - 246 ≤ (b.size : Int) := by omega
    go_enter Try.func19, Try.ntmps19
    go_wp2_with fail
    refine (H.out _).mono ?_
    rintro e w1 ⟨rfl, hw⟩
    subst hw
    go_wp2_with fail
    go_quiet (fail)
    go_wp2_with fail
    go_ret
    exact ⟨rfl, _, rfl⟩
end Go.Proofs.Ytdcpfpefmndidaa
