/-
  The plain mathematics of layer 5 (seal): blocks as lists of bytes; nothing of any program.
-/
import Derived.Test.YtpniegglbglbcaaDoorOctMath2
import Derived.Test.YtpniegglbglbcaaDoorCrcMath
namespace Go.Proofs.YtpniegglbglbcaaDoor.Sl
open Oct (be fix rd)
/-- the text, and zeros behind it -/
def body (s : List UInt8) : List UInt8 := s ++ List.replicate (490 - s.length) 0
/-- what is sealed -/
def pre (n : Int) (s : List UInt8) : List UInt8 := fix n 8 ++ (fix s.length 2 ++ ((body s).take 246 ++ (fix n 8 ++ (body s).drop 246)))
def blk (n : Int) (s : List UInt8) : List UInt8 := Crc.seal4 (pre n s)
theorem body_len (s : List UInt8) (h : s.length ≤ 490) : (body s).length = 490 := by unfold body; rw [List.length_append, List.length_replicate]; omega
theorem body_take (s : List UInt8) : (body s).take s.length = s := by unfold body; exact List.take_left
/-- the document's front, and its back -/
theorem front_short (s : List UInt8) (h : s.length ≤ 246) : s ++ List.replicate (246 - s.length) 0 = (body s).take 246 := by
  unfold body
  rw [List.take_append, List.take_of_length_le h, List.take_replicate, show min (246 - s.length) (490 - s.length) = 246 - s.length by omega]
theorem back_short (s : List UInt8) (h : s.length ≤ 246) : List.replicate 244 0 = (body s).drop 246 := by
  unfold body
  rw [List.drop_append, List.drop_of_length_le h, List.drop_replicate, List.nil_append, show 490 - s.length - (246 - s.length) = 244 by omega]
theorem front_long (s : List UInt8) (h : 246 < s.length) : s.take 246 = (body s).take 246 := by
  unfold body
  rw [List.take_append, show 246 - s.length = 0 by omega, List.take_zero, List.append_nil]
theorem back_long (s : List UInt8) (h : 246 < s.length) : s.drop 246 ++ List.replicate (244 - (s.length - 246)) 0 = (body s).drop 246 := by
  unfold body
  rw [List.drop_append, show 246 - s.length = 0 by omega, List.drop_zero, show 490 - s.length = 244 - (s.length - 246) by omega]
theorem cut_at {a r : List UInt8} {k : Nat} (h : a.length = k) : (a ++ r).take k = a ∧ (a ++ r).drop k = r := by
  subst h; exact ⟨List.take_left, List.drop_left⟩
/-- a block's parts -/
structure Parts (l : List UInt8) (n : Int) (s : List UInt8) : Prop where
  len : l.length = 512
  num : l.take 8 = fix n 8
  size : (l.drop 8).take 2 = fix s.length 2
  front : (l.drop 10).take 246 = (body s).take 246
  again : (l.drop 256).take 8 = fix n 8
  back : (l.drop 264).take 244 = (body s).drop 246
theorem pre_len (n : Int) (s : List UInt8) (h : s.length ≤ 490) : (pre n s).length = 508 := by
  unfold pre
  simp only [List.length_append, Oct.fix_len, List.length_take, List.length_drop, body_len s h]
  omega
theorem blk_len (n : Int) (s : List UInt8) (h : s.length ≤ 490) : (blk n s).length = 512 := by unfold blk; rw [Crc.seal_len, pre_len n s h]
theorem blk_parts (n : Int) (s : List UInt8) (h : s.length ≤ 490) : Parts (blk n s) n s := by
  have e : blk n s = fix n 8 ++ (fix s.length 2 ++ ((body s).take 246 ++ (fix n 8 ++ ((body s).drop 246 ++ Crc.wr (Crc.sum (pre n s)))))) := by
    unfold blk Crc.seal4 pre; simp only [List.append_assoc]
  have l2 : ((body s).take 246).length = 246 := by rw [List.length_take, body_len s h]; omega
  have l3 : ((body s).drop 246).length = 244 := by rw [List.length_drop, body_len s h]
  have hl := blk_len n s h
  generalize Crc.wr (Crc.sum (pre n s)) = c at e
  generalize ht : (body s).take 246 = t at *
  generalize hd : (body s).drop 246 = d at *
  generalize blk n s = l at *
  obtain ⟨c1, c2⟩ := cut_at (r := fix s.length 2 ++ (t ++ (fix n 8 ++ (d ++ c)))) (Oct.fix_len n 8)
  obtain ⟨c3, c4⟩ := cut_at (r := t ++ (fix n 8 ++ (d ++ c))) (Oct.fix_len s.length 2)
  obtain ⟨c5, c6⟩ := cut_at (r := fix n 8 ++ (d ++ c)) l2
  obtain ⟨c7, c8⟩ := cut_at (r := d ++ c) (Oct.fix_len n 8)
  obtain ⟨c9, _⟩ := cut_at (r := c) l3
  have d8 : l.drop 8 = fix s.length 2 ++ (t ++ (fix n 8 ++ (d ++ c))) := by rw [e]; exact c2
  have d10 : l.drop 10 = t ++ (fix n 8 ++ (d ++ c)) := by rw [show 10 = 8 + 2 from rfl, ← List.drop_drop, d8]; exact c4
  have d256 : l.drop 256 = fix n 8 ++ (d ++ c) := by rw [show 256 = 10 + 246 from rfl, ← List.drop_drop, d10]; exact c6
  have d264 : l.drop 264 = d ++ c := by rw [show 264 = 256 + 8 from rfl, ← List.drop_drop, d256]; exact c8
  exact ⟨hl, by rw [e]; exact c1, by rw [d8]; exact c3, by rw [d10]; exact c5.trans ht.symm, by rw [d256]; exact c7, by rw [d264]; exact c9.trans hd.symm⟩
/-! ### as texts -/
theorem ext_list (b : ByteArray) (i j : Nat) : (b.extract i j).data.toList = (b.data.toList.drop i).take (j - i) := by
  rw [ByteArray.data_extract, Array.toList_extract, List.extract]
theorem rd_eq (b : ByteArray) (l : List UInt8) (h : b.data.toList = l) : rd b = IntKind.i64.wrap (be (l.take 8) : Int) := by unfold rd; rw [h]
def zeros : ByteArray := ⟨(List.replicate 512 0).toArray⟩
def one (b : ByteArray) : Int := rd (b.extract 0 8)
def two (b : ByteArray) : Int := rd (b.extract 256 264)
def len (b : ByteArray) : Int := rd (b.extract 8 10)
def all (b : ByteArray) : ByteArray := b.extract 10 256 ++ b.extract 264 508
def putE (n : Int) (s : ByteArray) : Int := if n < 1 ∨ 4611686018427387904 < n then 2 else if 490 < s.size then 5 else 0
def putB (n : Int) (s : ByteArray) : ByteArray := if putE n s = 0 then ⟨(blk n s.data.toList).toArray⟩ else ByteArray.empty
def halves (b : ByteArray) : Int × Int := if b.size = 512 then (one b, two b) else (0, 0)
def take (b : ByteArray) : Int × ByteArray × Int :=
  if b.size ≠ 512 then (0, ByteArray.empty, 4) else if b = zeros then (0, ByteArray.empty, 6) else if one b ≠ two b then (0, ByteArray.empty, 10) else if 490 < len b then (0, ByteArray.empty, 9)
  else if putE (one b) ((all b).extract 0 (len b).toNat) = 0 ∧ putB (one b) ((all b).extract 0 (len b).toNat) = b then (one b, (all b).extract 0 (len b).toNat, 0) else (0, ByteArray.empty, 9)
theorem ba_ext {a b : ByteArray} (h : a.data.toList = b.data.toList) : a = b := by
  cases a; cases b; congr; exact Array.toList_inj.1 h
theorem size_list (b : ByteArray) : b.size = b.data.toList.length := by simp
theorem putE_ok {n : Int} {s : ByteArray} : putE n s = 0 ↔ (1 ≤ n ∧ n ≤ 4611686018427387904 ∧ s.size ≤ 490) := by
  unfold putE
  split
  · constructor <;> intro h <;> omega
  · split
    · constructor <;> intro h <;> omega
    · constructor <;> intro h <;> omega
theorem putB_ok {n : Int} {s : ByteArray} (h : putE n s = 0) : putB n s = ⟨(blk n s.data.toList).toArray⟩ := by unfold putB; rw [if_pos h]
theorem putB_err {n : Int} {s : ByteArray} (h : putE n s ≠ 0) : putB n s = ByteArray.empty := by unfold putB; rw [if_neg h]
/-- what reads as a number of eight bytes -/
theorem rd_of (b : ByteArray) (n : Int) (h0 : -9223372036854775808 ≤ n) (h1 : n ≤ 9223372036854775807) (h : b.data.toList = fix n 8) : rd b = n := by
  have := Oct.rd_fix n h0 h1
  rwa [show (⟨(fix n 8).toArray⟩ : ByteArray) = b from ba_ext h.symm] at this
theorem rd_two (b : ByteArray) (k : Nat) (hk : k < 65536) (h : b.data.toList = fix k 2) : rd b = (k : Int) := by
  rw [rd_eq b _ h, List.take_of_length_le (by rw [Oct.fix_len]; omega), Oct.be_fix, IntKind.wrap_i64]
  omega
theorem put_parts {n : Int} {s : ByteArray} (h : putE n s = 0) : Parts (putB n s).data.toList n s.data.toList := by
  rw [putB_ok h]
  exact blk_parts n _ (by rw [← size_list]; exact (putE_ok.1 h).2.2)
theorem put_size {n : Int} {s : ByteArray} (h : putE n s = 0) : (putB n s).size = 512 := by rw [size_list]; exact (put_parts h).len
theorem put_one {n : Int} {s : ByteArray} (h : putE n s = 0) : one (putB n s) = n := by
  obtain ⟨h1, h2, _⟩ := putE_ok.1 h
  exact rd_of _ n (by omega) (by omega) (by rw [ext_list, List.drop_zero]; exact (put_parts h).num)
theorem put_two {n : Int} {s : ByteArray} (h : putE n s = 0) : two (putB n s) = n := by
  obtain ⟨h1, h2, _⟩ := putE_ok.1 h
  exact rd_of _ n (by omega) (by omega) (by rw [ext_list]; exact (put_parts h).again)
theorem put_len {n : Int} {s : ByteArray} (h : putE n s = 0) : len (putB n s) = (s.size : Int) := by
  obtain ⟨_, _, h3⟩ := putE_ok.1 h
  exact rd_two _ _ (by omega) (by rw [ext_list, size_list]; exact (put_parts h).size)
theorem put_all {n : Int} {s : ByteArray} (h : putE n s = 0) : (all (putB n s)).extract 0 s.size = s := by
  apply ba_ext
  have e : (all (putB n s)).data.toList = body s.data.toList := by
    unfold all
    rw [ByteArray.data_append, Array.toList_append, ext_list, ext_list, show 256 - 10 = 246 from rfl, show 508 - 264 = 244 from rfl, (put_parts h).front, (put_parts h).back, List.take_append_drop]
  rw [ext_list, List.drop_zero, e, Nat.sub_zero, size_list]
  exact body_take _
/-- a block that begins with a number is not all zeros -/
theorem one_zeros {b : ByteArray} (h : b = zeros) : one b = 0 ∧ two b = 0 := by subst h; exact ⟨by decide +kernel, by decide +kernel⟩
theorem take_put {n : Int} {s : ByteArray} (h : putE n s = 0) : take (putB n s) = (n, s, 0) ∧ halves (putB n s) = (n, n) := by
  obtain ⟨h1, h2, h3⟩ := putE_ok.1 h
  have hz : putB n s ≠ zeros := fun e => by have := (one_zeros e).1; rw [put_one h] at this; omega
  constructor
  · unfold take
    rw [if_neg (by rw [put_size h]; simp), if_neg hz, put_one h, put_two h, put_len h, if_neg (by simp), if_neg (by omega), Int.toNat_natCast, put_all h, if_pos ⟨h, rfl⟩]
  · unfold halves
    rw [if_pos (put_size h), put_one h, put_two h]
theorem take_ok {b : ByteArray} (h : (take b).2.2 = 0) : putE (take b).1 (take b).2.1 = 0 ∧ putB (take b).1 (take b).2.1 = b := by
  unfold take at h ⊢
  split at h
  · simp at h
  · split at h
    · simp at h
    · split at h
      · simp at h
      · split at h
        · simp at h
        · split at h
          · rename_i h1 h2 h3 h4 h5
            rw [if_neg h1, if_neg h2, if_neg h3, if_neg h4, if_pos h5]; exact h5
          · simp at h
theorem take_err {b : ByteArray} (h : (take b).2.2 ≠ 0) : (take b).1 = 0 ∧ (take b).2.1 = ByteArray.empty := by
  unfold take at h ⊢
  split at h
  · rename_i h1; rw [if_pos h1]; exact ⟨rfl, rfl⟩
  · rename_i h1; rw [if_neg h1]
    split at h
    · rename_i h2; rw [if_pos h2]; exact ⟨rfl, rfl⟩
    · rename_i h2; rw [if_neg h2]
      split at h
      · rename_i h3; rw [if_pos h3]; exact ⟨rfl, rfl⟩
      · rename_i h3; rw [if_neg h3]
        split at h
        · rename_i h4; rw [if_pos h4]; exact ⟨rfl, rfl⟩
        · rename_i h4; rw [if_neg h4]
          split at h
          · simp at h
          · rename_i h5; rw [if_neg h5]; exact ⟨rfl, rfl⟩
/-! ### torn ones -/
/-- the front of one and the back of another -/
def mix (a b : ByteArray) : ByteArray := a.extract 0 256 ++ b.extract 256 512
theorem mix_size {a b : ByteArray} (ha : a.size = 512) (hb : b.size = 512) : (mix a b).size = 512 := by
  unfold mix; rw [ByteArray.size_append, ByteArray.size_extract, ByteArray.size_extract]; omega
theorem mix_list (a b : ByteArray) : (mix a b).data.toList = a.data.toList.take 256 ++ (b.data.toList.drop 256).take 256 := by
  unfold mix; rw [ByteArray.data_append, Array.toList_append, ext_list, ext_list, List.drop_zero]
theorem rd_list {a b : ByteArray} (h : a.data.toList = b.data.toList) : rd a = rd b := by rw [ba_ext h]
theorem ext_first (b : ByteArray) (k : Nat) : (b.extract 0 k).data.toList = b.data.toList.take k := by rw [ext_list, List.drop_zero, Nat.sub_zero]
theorem mix_one {a b : ByteArray} (ha : a.size = 512) : one (mix a b) = one a := by
  have hl : 8 ≤ (a.data.toList.take 256).length := by rw [List.length_take, ← size_list]; omega
  refine rd_list ?_
  rw [ext_first, ext_first, mix_list]
  generalize (b.data.toList.drop 256).take 256 = r
  rw [List.take_append_of_le_length hl, List.take_take, show min 8 256 = 8 from rfl]
theorem mix_two {a b : ByteArray} (ha : a.size = 512) : two (mix a b) = two b := by
  have hl : (a.data.toList.take 256).length = 256 := by rw [List.length_take, ← size_list]; omega
  refine rd_list ?_
  rw [ext_list, ext_list, mix_list]
  generalize a.data.toList.take 256 = r at hl
  rw [(cut_at hl).2, List.take_take, show min (264 - 256) 256 = 264 - 256 from rfl]
theorem take_torn {b : ByteArray} (hs : b.size = 512) (h : one b ≠ two b) : take b = (0, ByteArray.empty, 10) := by
  have hz : b ≠ zeros := fun e => h (by rw [(one_zeros e).1, (one_zeros e).2])
  unfold take
  rw [if_neg (by simp [hs]), if_neg hz, if_pos h]
theorem zeros_size : zeros.size = 512 := by rw [size_list]; exact List.length_replicate
/-- SealTorn's whole claim -/
theorem torn {n m : Int} {s t : ByteArray} (h1 : putE n s = 0) (h2 : putE m t = 0) (hn : n ≠ m) :
    take (mix (putB n s) (putB m t)) = (0, ByteArray.empty, 10) ∧ take (mix (putB n s) zeros) = (0, ByteArray.empty, 10) ∧ take (mix zeros (putB m t)) = (0, ByteArray.empty, 10) ∧ halves (mix (putB n s) (putB m t)) = (n, m) := by
  have a1 := put_size h1
  have a2 := put_size h2
  have z := zeros_size
  obtain ⟨p1, _, _⟩ := putE_ok.1 h1
  obtain ⟨p2, _, _⟩ := putE_ok.1 h2
  have z1 := one_zeros (b := zeros) rfl
  refine ⟨take_torn (mix_size a1 a2) ?_, take_torn (mix_size a1 z) ?_, take_torn (mix_size z a2) ?_, ?_⟩
  · rw [mix_one a1, mix_two a1, put_one h1, put_two h2]; exact hn
  · rw [mix_one a1, mix_two a1, put_one h1, z1.2]; omega
  · rw [mix_one z, mix_two z, put_two h2, z1.1]; omega
  · unfold halves
    rw [if_pos (mix_size a1 a2), mix_one a1, mix_two a1, put_one h1, put_two h2]
/-! ### the document's example -/
def ab : ByteArray := ⟨#[97, 98]⟩
theorem ab_ok : putE 7 ab = 0 := by decide +kernel
theorem ab_cut : (putB 7 ab).extract 7 12 = ⟨#[7, 0, 2, 97, 98]⟩ := by
  apply ba_ext
  rw [ext_list, putB_ok ab_ok]
  decide +kernel
theorem ab_at : (putB 7 ab).data.toList[263]? = some 7 := by
  rw [putB_ok ab_ok]
  decide +kernel
theorem ab_take : take (putB 7 ab) = (7, ab, 0) := (take_put ab_ok).1
end Go.Proofs.YtpniegglbglbcaaDoor.Sl
