/-
  Layer 13, the program's: the tokens of a text.
-/
import Derived.Test.YtmpfnokddpbgcaaDoorZLexProg5
import Derived.Test.YtmpfnokddpbgcaaDoorZLexAll
import Derived.Deep.LoopGhost
namespace Go.Proofs.YtmpfnokddpbgcaaDoor
open Go.RowKit
set_option maxRecDepth 100000 in
set_option maxHeartbeats 6400000 in
theorem lex13_any (s : ByteArray) (w : World) (hE : ErrR w) : Calls Tryd.prog 8 #[.string s] w (LexPost (lexS s) w) := by
  have hT : lexS s = if 200 < s.size then ([], 0, 5) else Lx.lexAt 0 s.data.toList := rfl
  generalize lexS s = T at *
  by_cases hl : (s.size : Int) > 200
  · rw [if_pos (by omega)] at hT
    have H := Lib.hid hT
    clear hT
    go_enter Tryd.func8, Tryd.ntmps8
    go_wp2_with fail
    go_step3
    go_wp2_with fail
    try rw [Exit.noGoto_ret]
    go_ret3
    exact lexPost_err H.out (Below.refl _ _)
  · rw [if_neg (by omega), Lx.glue_form] at hT
    have HT := Lib.hid hT
    clear hT
    go_enter Tryd.func8, Tryd.ntmps8
    go_wp2_with fail
    go_step3
    go_wp2_with fail
    go_step3
    go_wp2_with fail
    go_loopg [5, 6, 7, 8, 9] s.size (fun gh o i _ _ _ wr => ∃ (k n : Nat) (acc : List Lx.T) (ao : Option Addr) (cp : Nat), gh = s.size - k ∧ k ≤ s.size ∧ n ≤ k ∧ acc.length = n ∧ o = .slice ao n cp ∧ i = .int .i64 (k : Int) ∧ Hid (OwL tCl 33 4 wr w.heap.size (.slice ao n cp) acc ∧ Below w.heap.size w wr ∧ T = Lx.glue acc (Lx.lexAt k (s.data.toList.drop k))))
    case atStart => exact ⟨0, 0, [], none, 0, by omega, Nat.zero_le _, Nat.le_refl _, rfl, rfl, rfl, Lib.hid ⟨owL_nil _, Below.refl _ _, by rw [List.drop_zero]; exact HT.out⟩⟩
    case round =>
      obtain ⟨k, n, acc, ao, cp, hgh, hk, hnk, hacc, rfl, rfl, HI⟩ := hrel
      by_cases hlt : k < s.size
      · go_wp2_with fail
        go_loopg [6] (s.size - k) (fun gh2 i wx => ∃ (j : Nat), gh2 = s.size - j ∧ k ≤ j ∧ j < s.size ∧ i = .int .i64 (j : Int) ∧ wx = wr ∧ Hid (T = Lx.glue acc (Lx.lexAt j (s.data.toList.drop j))))
        case atStart => exact ⟨k, rfl, Nat.le_refl _, hlt, rfl, rfl, Lib.hid HI.out.2.2⟩
        case round =>
          obtain ⟨j, hgj, hkj, hjs, rfl, rfl, HG⟩ := hrel
          have hdn := drop_next s j hjs
          have hg := HG.out
          rw [hdn] at hg
          by_cases h32 : s[j] = 32
          · have t1 : ((s[j].toNat : Int) == 32) = true := by rw [h32]; rfl
            rw [h32, Lx.lexAt_blank] at hg
            by_cases he : j + 1 = s.size
            · have t2 : (((j : Int) + 1) == (s.size : Int)) = true := by simp; omega
              rw [List.drop_eq_nil_of_le (by rw [Array.length_toList]; show s.size ≤ j + 1; omega), Lx.glue_end] at hg
              have HN := Lib.hid hg
              clear hg h32 hdn he
              go_wp2_with fail
              try rw [Exit.noGoto_ret]
              go_ret3
              exact lexPost_ok HN.out hacc HI.out.1 HI.out.2.1
            · have t2 : (((j : Int) + 1) == (s.size : Int)) = false := by simp; omega
              have HN := Lib.hid hg
              clear hg h32 hdn
              go_wp2_with fail
              go_roundg (s.size - (j + 1))
              case measure => omega
              case rel => exact ⟨j + 1, rfl, by omega, by omega, by go_num, rfl, HN⟩
          · have t1 : ((s[j].toNat : Int) == 32) = false := by
              have : ¬ s[j].toNat = 32 := fun e => h32 (UInt8.toNat_inj.1 e)
              simp; omega
            have hxs : (s.extract j s.size).size = s.size - j := by rw [ByteArray.size_extract]; omega
            have cO := fun wx hw => first13_any (s.extract j s.size) wx (by omega) hw
            have hxl : (s.extract j s.size).data.toList = s.data.toList.drop j := Oct.extract_drop s j
            rw [hxl] at cO
            have hEw := errR_below hE HI.out.2.1
            by_cases he : (Lx.one (s.data.toList.drop j)).2.2 = 0
            · have hp := (Lx.one_ok he).2.2.1
              have hle := (Lx.one_ok he).2.2.2.1
              have hsl : s.data.toList.length = s.size := by rw [Array.length_toList]; rfl
              have hle2 : (Lx.one (s.data.toList.drop j)).2.1 ≤ s.size - j := by
                have h := List.length_drop (i := j) (l := s.data.toList)
                rw [hsl] at h
                rw [← h]; exact hle
              have he2 := he
              rw [hdn] at he2
              rw [Lx.glue_step acc h32 he2, ← hdn, List.drop_drop] at hg
              rw [he] at cO
              have hnp : 0 < (Lx.one (s.data.toList.drop j)).2.1 := hp
              generalize (Lx.one (s.data.toList.drop j)).2.1 = N at *
              generalize (Lx.one (s.data.toList.drop j)).1 = V at *
              obtain ⟨tk, ts, tn, ta⟩ := V
              have HN := Lib.hid (And.intro (cO _ hEw) hg)
              clear cO hg hle hp he he2 hxl hdn h32 hxs hsl hEw
              go_wp2_with fail
              refine HN.out.1.mono ?_
              rintro e w2 ⟨rfl, hb2⟩
              obtain ⟨p1, p2, p3, p4⟩ := box_tok ⟨tk, ts, tn, (j : Int)⟩ (owL_below HI.out.1 hb2) (HI.out.2.1.trans (hb2.mono HI.out.2.1.size)) (Nat.le_refl _)
              have HP := Lib.hid (And.intro p1 (And.intro p2 (And.intro p3 p4)))
              clear hb2 p1 p2 p3 p4
              go_upto_region 13 with (fail)
              generalize hws : World.alloc w2 _ = ws at *
              obtain ⟨c0, c1, c2, c3, _⟩ := tok_cells (v := ⟨tk, ts, tn, (j : Int)⟩) HP.out.2.2.2
              obtain ⟨o1, o2, o3, o4⟩ := box_tok ⟨tk, ts, tn, (j : Int)⟩ HP.out.1 HP.out.2.1 (Nat.le_refl _)
              have HO := Lib.hid (And.intro o1 (And.intro o2 (And.intro o3 o4)))
              clear o1 o2 o3 o4 hws
              go_wp2_with (at_builtin; refine wpList_append_one (f := tCl) (B := w.heap.size) tok_elem rfl (.tmp 41) (.tmp 43) 23 rfl Tryd.underlying23 (.slice _ n cp) acc ⟨tk, ts, tn, (j : Int)⟩ rfl HO.out.1 ws.heap.size 1 rfl HO.out.2.2.2 rfl (tCl_one _) (by omega) HO.out.2.2.1 ?_; intro gg cap w6 h1 h2 h3 h4; have HF := Lib.hid (And.intro h1 (And.intro h2 (And.intro h3 h4))); clear h1 h2 h3 h4; rw [hacc])
              obtain ⟨f1, f2⟩ := app_tok (w := w) HF.out.1 HF.out.2.1 HO.out.1 HO.out.2.1 HO.out.2.2.1
              rw [hacc] at f1
              have HG := Lib.hid (And.intro f1 f2)
              clear f1 f2
              go_wp2_with fail
              go_roundg (s.size - (j + N))
              case measure => omega
              case rel => exact ⟨j + N, n + 1, acc ++ [⟨tk, ts, tn, (j : Int)⟩], _, cap, rfl, by omega, by omega, by rw [List.length_append, hacc]; rfl, rfl, by go_num, Lib.hid ⟨HG.out.1, HG.out.2, HN.out.2⟩⟩
            · have he2 := he
              rw [hdn] at he2
              rw [Lx.glue_err acc h32 he2, ← hdn] at hg
              have q1 : ((Lx.one (s.data.toList.drop j)).2.2 != 0) = true := by simpa using he
              generalize (Lx.one (s.data.toList.drop j)).2.1 = N at *
              generalize (Lx.one (s.data.toList.drop j)).2.2 = E at *
              generalize (Lx.one (s.data.toList.drop j)).1 = V at *
              obtain ⟨tk, ts, tn, ta⟩ := V
              have HN := Lib.hid (And.intro (cO _ hEw) hg)
              clear cO hg he he2 hxl hdn h32 hxs hEw
              go_wp2_with fail
              refine HN.out.1.mono ?_
              rintro e w2 ⟨rfl, hb2⟩
              have hbw := HI.out.2.1.trans (hb2.mono HI.out.2.1.size)
              have HP := Lib.hid (hbw.alloc hbw.size (.cells (tokC ⟨tk, ts, tn, ta⟩) 33))
              clear hb2 hbw
              go_wp2_with fail
              try rw [Exit.noGoto_ret]
              go_ret3
              exact lexPost_err HN.out.2 HP.out
      · have HE : Hid (T = (acc, 0, 0)) := Lib.hid (by
          rw [HI.out.2.2, List.drop_eq_nil_of_le (by rw [Array.length_toList]; show s.size ≤ k; omega)]; exact Lx.glue_end acc k)
        go_wp2_with fail
        try rw [Exit.noGoto_ret]
        go_ret3
        exact lexPost_ok HE.out hacc HI.out.1 HI.out.2.1
end Go.Proofs.YtmpfnokddpbgcaaDoor
