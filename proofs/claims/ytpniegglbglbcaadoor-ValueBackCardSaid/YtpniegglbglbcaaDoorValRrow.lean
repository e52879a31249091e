/-
  Layer 12: a row off the front, the document's.
-/
import Derived.Test.YtpniegglbglbcaaDoorValRows
namespace Go.Proofs.YtpniegglbglbcaaDoor
open Go.RowKit
set_option maxRecDepth 100000 in
set_option maxHeartbeats 6400000 in
theorem rtakeRow12_any (s : ByteArray) (most : Int) (w : World) (hs : s.size ≤ 100000) :
    Calls Tryd.prog 18 #[.string s, .int .i64 most] w (RowPost (Vl.takeRow s most) w) := by
  have z1 := tR12_size s
  have h1 := fun w => rtakeNum_any s w (by unfold maxLen; omega)
  have hT : Vl.takeRow s most = if Oct.tE s ≠ 0 then ([], Vl.mt, Oct.tE s) else if Oct.tN s < 0 then ([], Vl.mt, 4) else if most < Oct.tN s then ([], Vl.mt, 5) else Vl.rows (Oct.tN s).toNat (Oct.tR s) := rfl
  generalize Vl.takeRow s most = T at *
  have hrange := tN12_range s
  by_cases e1 : Oct.tE s = 0
  · rw [if_neg (fun x => x e1)] at hT
    rw [e1] at h1
    generalize Oct.tN s = C at *
    generalize Oct.tR s = R0 at *
    by_cases c0 : C < 0
    · rw [if_pos c0] at hT
      have H := Lib.hid (And.intro h1 hT)
      clear h1 hT e1
      go_enter Tryd.func18, Tryd.ntmps18
      go_wp2_with fail
      refine (H.out.1 _).mono ?_
      rintro e _ ⟨rfl, n0, rfl⟩
      go_wp2_with fail
      go_ret3
      exact rowPost_err H.out.2 (below_drewN (Below.refl _ _) n0)
    · rw [if_neg c0] at hT
      by_cases c1 : C > most
      · rw [if_pos c1] at hT
        have H := Lib.hid (And.intro h1 hT)
        clear h1 hT e1
        go_enter Tryd.func18, Tryd.ntmps18
        go_wp2_with fail
        refine (H.out.1 _).mono ?_
        rintro e _ ⟨rfl, n0, rfl⟩
        go_wp2_with fail
        go_ret3
        exact rowPost_err H.out.2 (below_drewN (Below.refl _ _) n0)
      · rw [if_neg c1] at hT
        obtain ⟨n, rfl⟩ : ∃ n : Nat, C = (n : Int) := ⟨C.toNat, by omega⟩
        rw [Int.toNat_natCast, Vl.rows_form] at hT
        have HT := Lib.hid hT
        have H := Lib.hid h1
        clear h1 hT e1 c0
        go_enter Tryd.func18, Tryd.ntmps18
        go_wp2_with fail
        refine (H.out _).mono ?_
        rintro e _ ⟨rfl, n0, rfl⟩
        have hb0 := Lib.hid (below_drewN (Below.refl w.heap.size w) n0)
        go_wp2_with fail
        generalize World.drewN w n0 = wa at *
        go_loopw [8, 10, 11, 12, 13] (fun r l _ _ _ wr => ∃ (k : Nat) (acc : List Vl.V) (ao : Option Addr) (cp : Nat) (R : ByteArray), k ≤ n ∧ acc.length = k ∧ r = .string R ∧ l = .slice ao k cp ∧ k + R.size ≤ s.size ∧ Hid (OwL vCl 24 3 wr w.heap.size (.slice ao k cp) acc ∧ Below w.heap.size w wr ∧ T = Vl.glue acc (Vl.rows (n - k) R))) (fun r _ _ _ _ _ => (strOf r).size)
        case atStart => exact ⟨0, [], none, 0, R0, Nat.zero_le _, rfl, rfl, rfl, by omega, Lib.hid ⟨owL_nil _, hb0.out, by rw [Nat.sub_zero]; exact HT.out⟩⟩
        case round =>
          obtain ⟨k, acc, ao, cp, R, hk, hacc, rfl, rfl, hR, HI⟩ := hrel
          by_cases hlt : k < n
          · have cT := fun wx => rtake12_any R wx (by unfold maxLen; omega)
            have hts := take12_size R
            by_cases e1 : (Vl.take R).2.2 = 0
            · have hless := Vl.take_less e1
              have hgl := Vl.glue_step acc (n - (k + 1)) R e1
              rw [show n - (k + 1) + 1 = n - k by omega] at hgl
              rw [e1] at cT
              clear e1
              generalize hV : (Vl.take R).1 = V at *
              generalize hR2 : (Vl.take R).2.1 = R2 at *
              obtain ⟨vk, vn, vs⟩ := V
              have HN := Lib.hid (And.intro cT hgl)
              clear cT hgl hV hR2 hts
              go_wp2_with fail
              refine (HN.out.1 _).mono ?_
              rintro e w2 ⟨rfl, hb2⟩
              have hown2 := owL_below HI.out.1 hb2
              have hbw2 := HI.out.2.1.trans (hb2.mono HI.out.2.1.size)
              obtain ⟨p1, p2, p3, p4⟩ := box_val ⟨vk, vn, vs⟩ hown2 hbw2 (Nat.le_refl _)
              have HP := Lib.hid (And.intro p1 (And.intro (show RowV _ _ _ (valC ⟨vk, vn, vs⟩).toList from p4) p2))
              clear hb2 p1 p2 p3 p4 hown2 hbw2
              go_upto_region 11 with (fail)
              generalize hws : World.alloc w2 _ = ws at *
              obtain ⟨c0, c1, c2, d0, d1, d2⟩ := val_cells (v := ⟨vk, vn, vs⟩) HP.out.2.1
              have hBs : w.heap.size ≤ ws.heap.size := HP.out.2.2.size
              obtain ⟨o1, o2, o3, o4⟩ := box_val ⟨vk, vn, vs⟩ HP.out.1 HP.out.2.2 (Nat.le_refl _)
              have HO := Lib.hid (And.intro o1 (And.intro o2 (And.intro o3 o4)))
              clear o1 o2 o3 o4 hws
              go_wp2_with (at_builtin; refine wpList_append_one (f := vCl) (B := w.heap.size) val_elem rfl (.tmp 44) (.tmp 46) 36 rfl Tryd.underlying36 (.slice _ k cp) acc ⟨vk, vn, vs⟩ rfl HO.out.1 ws.heap.size 1 rfl HO.out.2.2.2 rfl (vCl_one _) (by omega) HO.out.2.2.1 ?_; intro gg cap w6 h1 h2 h3 h4; have HF := Lib.hid (And.intro h1 (And.intro h2 (And.intro h3 h4))); clear h1 h2 h3 h4; rw [hacc])
              obtain ⟨f1, f2⟩ := app_val (w := w) HF.out.1 HF.out.2.1 HO.out.1 HO.out.2.1 HO.out.2.2.1
              rw [hacc] at f1
              have HG := Lib.hid (And.intro f1 f2)
              clear f1 f2
              go_wp2_with fail
              go_roundw
              case rel => exact ⟨k + 1, acc ++ [⟨vk, vn, vs⟩], _, cap, R2, by omega, by rw [List.length_append, hacc]; rfl, rfl, rfl, by omega, Lib.hid ⟨HG.out.1, HG.out.2, HI.out.2.2.trans HN.out.2⟩⟩
              case measure => show R2.size < R.size; exact hless
            · have hgl := Vl.glue_err acc (n - (k + 1)) R e1
              rw [show n - (k + 1) + 1 = n - k by omega] at hgl
              have q1 : ((Vl.take R).2.2 != 0) = true := by simpa using e1
              clear e1
              generalize hV : (Vl.take R).1 = V at *
              generalize hR2 : (Vl.take R).2.1 = R2 at *
              generalize hE2 : (Vl.take R).2.2 = E2 at *
              obtain ⟨vk, vn, vs⟩ := V
              have HN := Lib.hid (And.intro cT hgl)
              clear cT hgl hV hR2 hE2 hts
              go_wp2_with fail
              refine (HN.out.1 _).mono ?_
              rintro e w2 ⟨rfl, hb2⟩
              have hbw2 := HI.out.2.1.trans (hb2.mono HI.out.2.1.size)
              have HP := Lib.hid (hbw2.alloc hbw2.size (.cells (valC ⟨vk, vn, vs⟩) 24))
              clear hb2 hbw2
              go_wp2_with fail
              go_ret3
              exact rowPost_err (HI.out.2.2.trans HN.out.2) HP.out
          · obtain rfl : k = n := by omega
            have HE : Hid (T = (acc, R, 0)) := Lib.hid (HI.out.2.2.trans (by rw [Nat.sub_self]; exact Vl.glue_end acc R))
            go_wp2_with fail
            go_ret3
            exact rowPost_ok HE.out hacc HI.out.1 HI.out.2.1
  · rw [if_pos e1] at hT
    have q1 : (Oct.tE s != 0) = true := by simpa using e1
    generalize Oct.tE s = E1 at *
    have H := Lib.hid (And.intro h1 hT)
    clear h1 hT e1
    go_enter Tryd.func18, Tryd.ntmps18
    go_wp2_with fail
    refine (H.out.1 _).mono ?_
    rintro e _ ⟨rfl, n0, rfl⟩
    go_wp2_with fail
    go_ret3
    exact rowPost_err H.out.2 (below_drewN (Below.refl _ _) n0)
end Go.Proofs.YtpniegglbglbcaaDoor
