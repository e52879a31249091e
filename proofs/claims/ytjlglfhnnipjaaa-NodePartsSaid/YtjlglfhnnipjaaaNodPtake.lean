/-
  Layer 9: the program's node: the pairs that bytes begin with; the node of a page.
-/
import Derived.Test.YtjlglfhnnipjaaaNodPut
import Derived.Test.YtjlglfhnnipjaaaNodeTook
import Derived.Test.YtjlglfhnnipjaaaPairOwn
import Derived.Test.YtjlglfhnnipjaaaOctTxt
import Derived.Deep.LoopGhost
namespace Go.Proofs.Ytjlglfhnnipjaaa
open Go.RowKit
theorem info9_int : (Try.prog.info? 3).map (·.size) = some 1 := by kernel_rfl
theorem run_index_lim (w : World) (i : Nat) (hi : i < 2) (v : Int) (hv : (#[.int .i64 48, .int .i64 160] : Array Value)[i]? = some (.int .i64 v)) :
    (Instr.index 88 (.agg #[.int .i64 48, .int .i64 160]) (.int .i64 (i : Int))).run Try.prog w = .ok (.int .i64 v) w := by
  obtain ⟨i0, hi0, hz⟩ := Option.map_eq_some_iff.1 info9_int
  have hi3 : 0 ≤ (i : Int) := by omega
  simp [Instr.index, run_underlying Try.underlying88, asIntOf, hi3, go_sem, sizeOf, typeInfo, hi0, hz, part, isAgg, run_underlying Try.underlying3]
  rw [if_pos hi]
  have hv2 : [Value.int .i64 48, Value.int .i64 160][i]? = some (Value.int .i64 v) := by simpa using hv
  rw [hv2]; rfl
theorem index_lim : (∀ w, (Instr.index 88 (.agg #[.int .i64 48, .int .i64 160]) (.int .i64 0)).run Try.prog w = .ok (.int .i64 48) w) ∧ ∀ w, (Instr.index 88 (.agg #[.int .i64 48, .int .i64 160]) (.int .i64 1)).run Try.prog w = .ok (.int .i64 160) w :=
  ⟨fun w => run_index_lim w 0 (by omega) 48 rfl, fun w => run_index_lim w 1 (by omega) 160 rfl⟩
/-- what is taken as pairs -/
def TookPost (L : List (ByteArray × ByteArray)) (w : World) (e : Ending) (w' : World) : Prop := ∃ a cap, e = .returned (.slice a L.length cap) ∧ ReadsP w' a L ∧ Below w.heap.size w w'
theorem tookPost_mk {L : List (ByteArray × ByteArray)} {w w' : World} {v : Value} {n : Nat} (h : w'.ownsRow w.heap.size 33 2 v n (pairsC L)) (hn : n = L.length) (hb : Below w.heap.size w w') : TookPost L w (.returned v) w' := by
  obtain ⟨a, cap, rfl, h1, _⟩ := owns_readsP h hn
  exact ⟨a, cap, rfl, h1, hb⟩
/-- a pair on its way: how many of its texts are taken -/
def Nd.Half (s' : ByteArray) (j : Nat) (sj p0 p1 : ByteArray) : Prop :=
  (j = 0 ∧ sj = s') ∨ (j = 1 ∧ (Oct.txt s' 48).2.2 = 0 ∧ sj = (Oct.txt s' 48).2.1 ∧ p0 = (Oct.txt s' 48).1) ∨
  (j = 2 ∧ (Oct.txt s' 48).2.2 = 0 ∧ (Oct.txt (Oct.txt s' 48).2.1 160).2.2 = 0 ∧ sj = (Oct.txt (Oct.txt s' 48).2.1 160).2.1 ∧ p0 = (Oct.txt s' 48).1 ∧ p1 = (Oct.txt (Oct.txt s' 48).2.1 160).1)
theorem half_step (s' : ByteArray) (j m : Nat) (sj p0 p1 : ByteArray) (hj : j < 2) (hm : 0 < m) (hs : sj.size ≤ s'.size) (hs2 : s'.size ≤ 100000) (h : Nd.Half s' j sj p0 p1) :
    ∃ (lim : Int) (tX tR : ByteArray) (tE : Int), (∀ w, (Instr.index 88 (.agg #[.int .i64 48, .int .i64 160]) (.int .i64 (j : Int))).run Try.prog w = .ok (.int .i64 lim) w) ∧
      (∀ wx, Calls Try.prog 56 #[.string sj, .int .i64 lim] wx fun e w' => e = .returned (.tuple #[.string tX, .string tR, .int .i64 tE]) ∧ ∃ n, w' = wx.drewN n) ∧
      (tE = 0 → Nd.Half s' (j + 1) tR (if j = 0 then tX else p0) (if j = 0 then p1 else tX) ∧ tR.size < sj.size) ∧ (tE ≠ 0 → Nd.greedy m s' = []) := by
  obtain ⟨m, rfl⟩ : ∃ m', m = m' + 1 := ⟨m - 1, by omega⟩
  rcases h with ⟨rfl, rfl⟩ | ⟨rfl, h1, rfl, rfl⟩ | ⟨rfl, _⟩
  · refine ⟨48, _, _, _, index_lim.1, fun wx => takeText_any sj 48 wx (by unfold maxLen; omega), fun h => ⟨.inr (.inl ⟨rfl, h, rfl, rfl⟩), ((Nd.txt_len sj 48 (by decide)).2.2 h).1⟩, fun h => ?_⟩
    show (if _ then _ else _) = _
    rw [if_pos h]
  · refine ⟨160, _, _, _, index_lim.2, fun wx => takeText_any _ 160 wx (by unfold maxLen; omega), fun h => ⟨.inr (.inr ⟨rfl, h1, h, rfl, rfl, rfl⟩), ((Nd.txt_len _ 160 (by decide)).2.2 h).1⟩, fun h => ?_⟩
    show (if _ then _ else _) = _
    rw [if_neg (fun x => x h1), if_pos h]
  · omega
theorem half_two {s' sj p0 p1 : ByteArray} {m : Nat} (hm : 0 < m) (h : Nd.Half s' 2 sj p0 p1) : Nd.greedy m s' = (p0, p1) :: Nd.greedy (m - 1) sj := by
  obtain ⟨m, rfl⟩ : ∃ m', m = m' + 1 := ⟨m - 1, by omega⟩
  rcases h with ⟨h, _⟩ | ⟨h, _⟩ | ⟨_, h1, h2, rfl, rfl, rfl⟩
  · omega
  · omega
  · show (if _ then _ else _) = _
    rw [if_neg (fun x => x h1), if_neg (fun x => x h2)]
    rfl
theorem two_set (p0 p1 x : ByteArray) (j : Nat) (hj : j < 2) : ([.string p0, .string p1] : List Value).set j (.string x) = [.string (if j = 0 then x else p0), .string (if j = 0 then p1 else x)] := by
  match j, hj with
  | 0, _ => rfl
  | 1, _ => rfl
section
variable {w : World}
set_option maxRecDepth 100000 in
set_option maxHeartbeats 6400000 in
theorem takePairs9_any (s : ByteArray) (n : Int) (w : World) (hs : s.size ≤ 100000) (hn : n ≤ 9223372036854775807) (hn0 : -9223372036854775808 ≤ n) :
    Calls Try.prog 38 #[.string s, .int .i64 n] w (TookPost (Nd.greedy n.toNat s) w) := by
  obtain ⟨i0, hi, hz0, hz1, hz2⟩ := info_parts pair_parts
  have HI := Lib.hid (And.intro hi (And.intro hz0 (And.intro hz1 hz2)))
  clear hi hz0 hz1 hz2
  obtain ⟨ix0, ix1⟩ := index_lim
  go_enter Try.func38, Try.ntmps38
  go_wp2_with fail
  go_step3
  go_wp2_with fail
  go_step3
  go_wp2_with fail
  go_loopg [0, 5, 11] n.toNat (fun gh sv v i wr => ∃ (k : Nat) (s' : ByteArray) (A : List (ByteArray × ByteArray)), gh = n.toNat - k ∧ (k : Int) ≤ 9223372036854775807 ∧ i = .int .i64 (k : Int) ∧ sv = .string s' ∧ s'.size + A.length ≤ s.size ∧ Hid ((k : Int) ≤ n ∨ k = 0) ∧ Hid (A ++ Nd.greedy (n.toNat - k) s' = Nd.greedy n.toNat s) ∧ Hid (wr.ownsRow w.heap.size 33 2 v A.length (pairsC A) ∧ Below w.heap.size w wr))
  case atStart => exact ⟨0, s, [], by omega, by omega, rfl, rfl, by simp, Lib.hid (.inr rfl), Lib.hid rfl, Lib.hid ⟨World.ownsRow_nil _ _ _ _, Below.refl _ _⟩⟩
  case round =>
    obtain ⟨k, s', A, hgh, hk, rfl, rfl, hsz, HK, HG, HO⟩ := hrel
    by_cases hlt : (k : Int) < n
    · go_wp2_with fail
      have hb1 : Below wr.heap.size wr (wr.alloc (.cells #[.string ⟨#[]⟩, .string ⟨#[]⟩] 87)) := (Below.refl wr.heap.size wr).alloc (Nat.le_refl _) _
      have hrow := rowV_new wr 87 [.string ⟨#[]⟩, .string ⟨#[]⟩]
      have hown1 := World.ownsRow.alloc HO.out.1 (.cells #[.string ⟨#[]⟩, .string ⟨#[]⟩] 87)
      have hz1 : (wr.alloc (.cells #[.string ⟨#[]⟩, .string ⟨#[]⟩] 87)).heap.size = wr.heap.size + 1 := World.size_alloc _ _
      have hbw1 := HO.out.2.trans (hb1.mono HO.out.2.size)
      have hvb := fun j (hj : u5.ownBlock = some j) => World.ownsRow.lt HO.out.1 j hj
      have hws := HO.out.2.size
      have hlist : ([.string ⟨#[]⟩, .string ⟨#[]⟩] : List Value).toArray = #[.string ⟨#[]⟩, .string ⟨#[]⟩] := rfl
      rw [hlist] at hrow
      generalize hP : wr.heap.size = P at *
      generalize World.alloc wr _ = w1 at *
      have H1 := Lib.hid (And.intro hrow (And.intro hown1 (And.intro hbw1 hvb)))
      clear hb1 hrow hown1 hbw1 hvb hlist
      go_loopg [0, 14] 2 (fun gh2 sv i wx => ∃ (j : Nat) (sj p0 p1 : ByteArray), gh2 = 2 - j ∧ j ≤ 2 ∧ i = .int .i64 (j : Int) ∧ sv = .string sj ∧ sj.size + j ≤ s'.size ∧ Hid (Nd.Half s' j sj p0 p1) ∧ Hid (RowV wx P 87 [.string p0, .string p1] ∧ Only (fun b => b = P) w1 wx))
      case atStart => exact ⟨0, s', ⟨#[]⟩, ⟨#[]⟩, rfl, by omega, rfl, rfl, by omega, Lib.hid (.inl ⟨rfl, rfl⟩), Lib.hid ⟨H1.out.1, Only.refl _ _⟩⟩
      case round =>
        obtain ⟨j, sj, p0, p1, hgj, hj, rfl, rfl, hsj, HH, HW⟩ := hrel
        by_cases hj2 : j < 2
        · obtain ⟨lim, tX, tR, tE, hix, hcall, hok, hbad⟩ := half_step s' j (n.toNat - k) sj p0 p1 hj2 (by omega) (by omega) (by omega) HH.out
          have hset := two_set p0 p1 tX j hj2
          have HC := Lib.hid (And.intro hcall (And.intro hok (And.intro hbad hset)))
          clear hcall hok hbad hset
          have hj0 : 0 ≤ (j : Int) := by omega
          have hj3 : (j : Int) < 2 := by omega
          go_wp2_with fail
          refine (HC.out.1 _).mono ?_
          rintro e w2 ⟨rfl, nq, hw2⟩
          have hrw2 : RowV w2 P 87 [.string p0, .string p1] := by rw [hw2]; exact HW.out.1
          have how2 : Only (fun b => b = P) w1 w2 := by rw [hw2]; exact HW.out.2.drewN nq
          have c0 : w2.cell? ⟨P, j, none⟩ = some (.string (if j = 0 then p0 else p1)) := by
            rw [rowV_cell hrw2]
            match j, hj2 with
            | 0, _ => rfl
            | 1, _ => rfl
          have f0 := rowV_frozen hrw2 j
          have H2 := Lib.hid (And.intro hrw2 how2)
          clear hw2 hrw2 how2
          by_cases ht : tE = 0
          · have ht2 : (tE != 0) = false := by rw [ht]; rfl
            have HT := Lib.hid ht
            clear ht
            go_wp2_with fail
            have hrw3 := rowV_stored H2.out.1 j (.string tX)
            rw [HC.out.2.2.2] at hrw3
            have how3 := H2.out.2.setCell (g := P) (i := j) (fun _ => rfl) (.string tX)
            have H3 := Lib.hid (And.intro hrw3 how3)
            have hn3 := (HC.out.2.1 HT.out).2
            clear hrw3 how3
            go_roundg (2 - (j + 1))
            case measure => omega
            case rel => exact ⟨j + 1, tR, _, _, rfl, by omega, by go_num, rfl, by omega, Lib.hid (HC.out.2.1 HT.out).1, H3⟩
          · have ht2 : (tE != 0) = true := by simpa using ht
            have hg := HC.out.2.2.1 ht
            have how3 := H2.out.2.setCell (g := P) (i := j) (fun _ => rfl) (.string tX)
            have hown := ownsRow_only H1.out.2.1 how3 (fun b hb => by have := (H1.out.2.2.2 b hb).2; omega)
            have hbel : Below w.heap.size w (w2.setCell ⟨P, j, none⟩ (.string tX)) := H1.out.2.2.1.trans (how3.below (fun b _ hb => by rw [hb]; exact hws) (by omega))
            have hfin : Nd.greedy n.toNat s = A := by rw [← HG.out, hg, List.append_nil]
            have H3 := Lib.hid (And.intro hown (And.intro hbel hfin))
            clear how3 hown hbel hfin hg ht
            go_wp2_with fail
            try rw [Exit.noGoto_ret]
            go_ret
            rw [H3.out.2.2]
            exact tookPost_mk H3.out.1 rfl H3.out.2.1
        · obtain rfl : j = 2 := by omega
          have hg := half_two (show 0 < n.toNat - k by omega) HH.out
          have c0 := rowV_cell HW.out.1 0
          have c1 := rowV_cell HW.out.1 1
          simp only [List.getElem?_cons_zero, List.getElem?_cons_succ] at c0 c1
          have hown := ownsRow_only H1.out.2.1 HW.out.2 (fun b hb => by have := (H1.out.2.2.2 b hb).2; omega)
          have hbel : Below w.heap.size w wr := H1.out.2.2.1.trans (HW.out.2.below (fun b _ hb => by rw [hb]; exact hws) (by omega))
          have hown2 := World.ownsRow.alloc hown (.cells #[.string p0, .string p1] 33)
          have hz2 := hbel.size
          have hsn : A.length + 1 ≤ s.size := by omega
          have H3 := Lib.hid (And.intro hown (And.intro hbel (And.intro hown2 hg)))
          have hbase : w.heap.size ≤ (wr.alloc (.cells #[.string p0, .string p1] 33)).heap.size := by rw [World.size_alloc]; omega
          clear hown hbel hown2 hg
          go_wp2_with (at_builtin; refine wpList_append_lies _ rfl _ _ _ rfl w.heap.size 33 i0 _ 2 32 Try.underlying22 HI.out.1 HI.out.2.1 HI.out.2.2.1 HI.out.2.2.2 rfl (by omega) u5 A.length (pairsC A) rfl H3.out.2.2.1 ⟨wr.heap.size, 0, none⟩ 1 1 [.string p0, .string p1] rfl rfl (World.news_of_block (cs := #[.string p0, .string p1]) (t := 33) (fr := (0, 0)) (heap_alloc_new wr _)) (by intro u hu; simp at hu; rcases hu with rfl | rfl <;> rfl) (by omega) (by unfold maxLen; omega) (by omega) hbase _ rfl ?_; intro gg cap w4 hown4 hgrow hat hlt4)
          have hown5 : w4.ownsRow w.heap.size 33 2 (.slice (some ⟨gg, 0, none⟩) (A.length + 1) cap) (A ++ [(p0, p1)]).length (pairsC (A ++ [(p0, p1)])) := by
            rw [List.length_append, pairsC_app]; exact hown4
          have hbel5 : Below w.heap.size w w4 := (H3.out.2.1.alloc hz2 (.cells #[.string p0, .string p1] 33)).grown hgrow hbase (fun b hb => (H1.out.2.2.2 b hb).1)
          have hgr : A ++ [(p0, p1)] ++ Nd.greedy (n.toNat - (k + 1)) sj = Nd.greedy n.toNat s := by
            rw [← HG.out, H3.out.2.2.2, List.append_assoc, Nat.sub_sub]; rfl
          have H5 := Lib.hid (And.intro hown5 hbel5)
          clear hown4 hown5 hbel5 hgrow hat hlt4
          go_roundg (n.toNat - (k + 1))
          case measure => omega
          case rel => exact ⟨k + 1, sj, A ++ [(p0, p1)], rfl, by omega, by go_num, rfl, by rw [List.length_append, List.length_singleton]; omega, Lib.hid (.inl (by omega)), Lib.hid hgr, H5⟩
    · go_wp2_with fail
      go_ret
      have hg : Nd.greedy n.toNat s = A := by
        rw [← HG.out, show n.toNat - k = 0 by omega]
        show A ++ [] = A
        rw [List.append_nil]
      rw [hg]
      exact tookPost_mk HO.out.1 rfl HO.out.2
end
end Go.Proofs.Ytjlglfhnnipjaaa
