/-
  Layer 3: what Sum answers.
-/
import Derived.Test.YtjdjajjogpmdaaaDoorShaWrit
import Derived.Test.YtjdjajjogpmdaaaDoorShaBeg
import Derived.Test.YtjdjajjogpmdaaaDoorCat
namespace Go.Proofs.YtjdjajjogpmdaaaDoor
open Go.RowKit

theorem tab_pos {w : World} (h : Tab w) : 0 < w.heap.size := World.block_lt_of_cell? w _ (h 0 (by omega))

set_option maxRecDepth 100000 in
set_option maxHeartbeats 1600000 in
theorem sum_any (l : List ByteArray) (a : Option Addr) (cap : Nat) (w : World) (hr : ReadsS w a l) (hl : l.length ≤ maxLen) (hz : ∀ s ∈ l, s.size ≤ maxLen) (hc : (catB l).length < 576460752303423488) (ht : Tab w) :
    Calls Tryd.prog 8 #[.slice a l.length cap] w fun e w' => e = .returned (.string ⟨(Sha.dig (catB l)).toArray⟩) ∧ Below w.heap.size w w' := by
  have HR := Lib.hid (And.intro hr (And.intro hz (And.intro hc ht))); clear hr hz hc ht
  unfold maxLen at hl
  have hz := (zero_of_info (P := Tryd.prog) dig_info).1
  have hi := (zero_of_info (P := Tryd.prog) dig_info).2
  change ∀ w : World, (zeroValue 41).run Tryd.prog w = .ok (.agg zeroD) w at hz
  have hs0 := zeroD_size
  have hs1 := begD_size
  have ho := begD_one
  have HH := Lib.hid (And.intro hi (And.intro hs0 (And.intro hs1 ho)))
  clear hi hs0 hs1 ho
  have hbeg := fun w => begun_any w
  have hD : begD = (digL Sha.iv (List.replicate 64 0) 0).toArray := rfl
  generalize zeroD = Z at *
  generalize begD = D at *
  have HD := Lib.hid (And.intro hD hbeg)
  clear hD hbeg
  go_enter Tryd.func8, Tryd.ntmps8
  go_wp2_with fail
  refine (HD.out.2 _).mono ?_
  rintro e w1 ⟨rfl, hb1⟩
  have B1 := Lib.hid hb1; clear hb1
  go_wp2_with (refine wpList_store_row rfl 41 _ _ rfl w1.heap.size D rfl rfl 41 Z (heap_alloc_new _ _) (by rw [HH.out.2.2.1]; exact HH.out.1) (by rw [HH.out.2.1, HH.out.2.2.1]) HH.out.2.2.2 ?_)
  generalize hw2 : World.setRow _ _ _ = w2
  have hrow : RowV w2 w1.heap.size 41 (digL Sha.iv (List.replicate 64 0) 0) := by
    rw [← hw2]
    show _ = some (Obj.cells (digL Sha.iv (List.replicate 64 0) 0).toArray _)
    rw [← HD.out.1]
    exact setRow_heap _ _ Z D _ (0, 0) (heap_alloc_new w1 _)
  have hdig : Dig w2 w1.heap.size [] := ⟨List.replicate 64 0, digB_zero _ _ List.length_replicate (fun x hx => by rw [(List.mem_replicate.1 hx).2]; omega) rfl, hrow⟩
  have hb2 : Below w.heap.size w w2 := by rw [← hw2]; exact below_setRow (B1.out.alloc B1.out.size _) B1.out.size _
  have hg : w.heap.size ≤ w1.heap.size := B1.out.size
  generalize w1.heap.size = g at *
  have H2 := Lib.hid (And.intro hdig (And.intro hb2 hg))
  clear hw2 hrow hdig hb2 hg hz
  have hpos := tab_pos HR.out.2.2.2
  have HG : Hid (0 < g) := Lib.hid (Nat.lt_of_lt_of_le hpos H2.out.2.2)
  clear hpos
  go_loopw [10] (fun i wr => ∃ k : Nat, k ≤ l.length ∧ i = .int .i64 (k : Int) ∧ Hid (Dig wr g (catB (l.take k))) ∧ Hid (Below w.heap.size w wr))
    (fun i _ => l.length - (intOf i).toNat)
  case atStart => exact ⟨0, by omega, rfl, Lib.hid H2.out.1, Lib.hid H2.out.2.1⟩
  case round =>
    obtain ⟨k, hk, rfl, HDg, HB⟩ := hrel
    by_cases hlt : k < l.length
    · obtain ⟨ga, o, rfl, hc⟩ := readsS_below HR.out.1 HB.out k hlt
      have hm := HR.out.2.1 (l[k]) (List.getElem_mem _)
      unfold maxLen at hm
      have hle := catB_le l (k + 1)
      have HN : Hid (catB (l.take (k + 1)) = catB (l.take k) ++ (l[k]).data.toList ∧ (catB (l.take (k + 1))).length < 576460752303423488) := Lib.hid ⟨catB_take l k hlt, Nat.lt_of_le_of_lt hle HR.out.2.2.1⟩
      clear hle
      generalize l[k] = s at *
      go_wp2_with fail
      go_loopw [16] (fun i wr => ∃ j : Nat, j ≤ s.size ∧ i = .int .i64 (j : Int) ∧ Hid (Dig wr g (catB (l.take k) ++ s.data.toList.take j)) ∧ Hid (Below w.heap.size w wr))
        (fun i _ => s.size - (intOf i).toNat)
      case atStart => exact ⟨0, by omega, rfl, Lib.hid (by simpa using HDg.out), HB⟩
      case round =>
        obtain ⟨j, hj, rfl, HD1, HB1⟩ := hrel
        by_cases hjt : j < s.size
        · have hlen : (catB (l.take k) ++ s.data.toList.take j).length < 1152921504606846976 := by
            have h1 := HN.out.2
            rw [HN.out.1, List.length_append] at h1
            rw [List.length_append, List.length_take]
            omega
          have hput := put_any (catB (l.take k) ++ s.data.toList.take j) s[j] g wr hlen HD1.out (tab_below HR.out.2.2.2 HB1.out (tab_pos HR.out.2.2.2)) HG.out
          rw [List.append_assoc, ← byte_take s j hjt] at hput
          have HP := Lib.hid hput
          clear hput hlen
          have i1 : (j : Int) < (s.size : Int) := by omega
          go_wp2_with fail
          refine HP.out.mono ?_
          rintro e w4 ⟨rfl, hd4, hb4⟩
          have H4 := Lib.hid (And.intro hd4 (HB1.out.trans (hb4.mono H2.out.2.2)))
          clear hd4 hb4
          go_wp2_with fail
          go_roundw
          case rel => exact ⟨j + 1, by omega, by go_num, Lib.hid H4.out.1, Lib.hid H4.out.2⟩
          case measure => simp [intOf]; omega
        · have hE : catB (l.take k) ++ s.data.toList.take j = catB (l.take (k + 1)) := by
            rw [HN.out.1, List.take_of_length_le (l := s.data.toList) (by simp; omega)]
          have HE := Lib.hid hE
          clear hE
          go_wp2_with fail
          go_roundw
          case rel => exact ⟨k + 1, by omega, by go_num, Lib.hid (by rw [← HE.out]; exact HD1.out), HB1⟩
          case measure => simp [intOf]; omega
    · have hE : catB (l.take k) = catB l := by rw [List.take_of_length_le (by omega)]
      have hdl : Dig wr g (catB l) := by rw [← hE]; exact HDg.out
      have HF := Lib.hid hdl
      clear hE hdl
      go_wp2_with fail
      refine (close_any (catB l) g wr HR.out.2.2.1 HF.out (tab_below HR.out.2.2.2 HB.out (tab_pos HR.out.2.2.2)) HG.out).mono ?_
      rintro e w5 ⟨rfl, hd5, hb5⟩
      have H5 := Lib.hid (And.intro hd5 (HB.out.trans (hb5.mono H2.out.2.2)))
      clear hd5 hb5
      go_wp2_with fail
      refine (written_any (Sha.fill (catB l)) g w5 H5.out.1).mono ?_
      rintro e w6 ⟨rfl, hb6⟩
      have H6 := Lib.hid (H5.out.2.trans (hb6.mono H5.out.2.size))
      clear hb6
      go_wp2_with fail
      go_ret
      exact ⟨rfl, H6.out⟩
end Go.Proofs.YtjdjajjogpmdaaaDoor
