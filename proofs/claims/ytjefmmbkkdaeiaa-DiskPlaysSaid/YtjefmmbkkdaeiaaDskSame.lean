/-
  Layer 4's laws: DiskSame, walked.
-/
import Derived.Test.YtjefmmbkkdaeiaaDskLives
import Derived.Test.YtjefmmbkkdaeiaaDskOpen
namespace Go.Proofs.Ytjefmmbkkdaeiaa
open Go.RowKit

abbrev Calls3 := DAct × Option Addr × Nat
def noCall : Calls3 := (⟨0, 0, 0, 0, []⟩, none, 0)
/-- the first k calls, done -/
def actsK (d : Dk.D) (L : List Calls3) : Nat → Dk.D
  | 0 => d
  | k + 1 => actD (actsK d L k) (L.getD k noCall).1
theorem actsK_W (d : Dk.D) (L : List Calls3) (k : Nat) : (actsK d L k).W.length ≤ d.W.length + k := by
  induction k with
  | zero => exact Nat.le_refl _
  | succ k ih => have := actD_W (actsK d L k) (L.getD k noCall).1; show (actD _ _).W.length ≤ _; omega
theorem actD_B (d : Dk.D) (x : DAct) : (actD d x).B.length = d.B.length := by
  unfold actD
  repeat' split
  · unfold Dk.write
    repeat' split
    all_goals rfl
  · unfold Dk.flush
    repeat' split
    · rfl
    · rfl
    · exact Dk.over_len _ _
  · unfold Dk.arm
    split <;> rfl
  · exact Dk.crashK_len _ _ _ _
  · rfl
theorem actsK_B (d : Dk.D) (L : List Calls3) (k : Nat) : (actsK d L k).B.length = d.B.length := by
  induction k with
  | zero => rfl
  | succ k ih => show (actD _ _).B.length = _; rw [actD_B, ih]
theorem readsA_below {w w' : World} {a : Option Addr} {L : List Calls3} (h : ReadsA w a L) (hb : Below w.heap.size w w') : ReadsA w' a L := by
  intro i hi
  obtain ⟨b, off, h1, h2, h3, h4, h5⟩ := h i hi
  exact ⟨b, off, h1, fun j v hj => by rw [hb.cell (World.block_lt_of_cell? w _ (h2 j v hj))]; exact h2 j v hj, h3, h4, readsI_below h5 hb⟩
theorem act_size (x : DAct) (fa : Option Addr) (fc : Nat) : (Try.prog.info? 34).map (·.size) = some (actV x fa fc).toList.length := by
  show _ = some 5
  kernel_rfl
/-- call k of the list, read; and what 'do' makes of it -/
theorem call_at {w0 w : World} {a : Option Addr} {L : List Calls3} (h : ReadsA w0 a L) (hb : Below w0.heap.size w0 w) (k : Nat) (hk : k < L.length) :
    ∃ b off, a = some ⟨b, off, none⟩ ∧ w.rangeAt b (off + k * 5) (actV (L.getD k noCall).1 (L.getD k noCall).2.1 (L.getD k noCall).2.2).toList ∧ (∀ S : Nat → Prop, (∀ j, S j → w0.heap.size ≤ j) → ActOk w S (L.getD k noCall).1 (L.getD k noCall).2.1) := by
  have e : L.getD k noCall = L[k] := Dk.getD_get L k noCall hk
  rw [e]
  obtain ⟨b, off, h1, h2, h3, h4, h5⟩ := readsA_below h hb k hk
  obtain ⟨_, _, _, _, _, _, h6⟩ := h k hk
  exact ⟨b, off, h1, h2, fun S hS => ⟨h3, h4, h5, fun x hx hl hs => by have := readsI_lt h6 x hx hl; have := hS _ hs; omega⟩⟩
theorem do_at {w0 w : World} {S : Nat → Prop} {p k : Nat} {d : Dk.D} {L : List Calls3} (h : DiskAt w S p (actsK d L k)) (hS : ∀ j, w.heap.size ≤ j → S j) (hx : ActOk w S (L.getD k noCall).1 (L.getD k noCall).2.1) (hW : d.W.length + k ≤ 1000000) (_hb : Below w0.heap.size w0 w) :
    Calls Try.prog 18 #[.pointer (some ⟨p, 0, none⟩), .agg (actV (L.getD k noCall).1 (L.getD k noCall).2.1 (L.getD k noCall).2.2).toList.toArray] w fun e w' => e = .returned (.tuple #[]) ∧ DiskAt w' S p (actsK d L (k + 1)) ∧ Only S w w' := by
  rw [Array.toArray_toList]
  exact do_any h hS _ _ _ hx (Nat.le_trans (actsK_W d L k) hW)

set_option maxRecDepth 100000 in
set_option maxHeartbeats 3200000 in
theorem same_small (L M : List Calls3) (la ma : Option Addr) (lc mc : Nat) (w : World) (hL : ReadsA w la L) (hM : ReadsA w ma M) (l20 : L.length ≤ 20) (m20 : M.length ≤ 20) :
    Calls Try.prog 5 #[.slice la L.length lc, .slice ma M.length mc] w fun e w' => e = .returned (.bool true) ∧ Below w.heap.size w w' := by
  have HH := Lib.hid (And.intro hL hM); clear hL hM
  have hu : Try.prog.underlying 34 = some _ := Try.underlying34
  go_enter Try.func5, Try.ntmps5
  go_wp2_with fail
  refine (new_up 4 w (by omega) (by omega)).mono ?_
  rintro e w1 ⟨p, rfl, hd, hb⟩
  have H1 := Lib.hid (And.intro hd hb); clear hd hb
  go_wp2_with fail
  go_loopw [7] (fun i wr => ∃ k : Nat, k ≤ L.length ∧ i = .int .i64 (k : Int) ∧ Hid (DiskAt wr (Up w.heap.size) p (actsK (Dk.new 4) L k)) ∧ Hid (Below w.heap.size w wr))
    (fun i _ => L.length - (intOf i).toNat)
  case atStart => exact ⟨0, by omega, rfl, Lib.hid H1.out.1, Lib.hid H1.out.2⟩
  case round =>
    obtain ⟨k, hk, rfl, HD, HB⟩ := hrel
    by_cases hlt : k < L.length
    · obtain ⟨b, off, rfl, hrng, hok⟩ := call_at HH.out.1 HB.out k hlt
      have hsz := act_size (L.getD k noCall).1 (L.getD k noCall).2.1 (L.getD k noCall).2.2
      have hdo := do_at (w0 := w) (S := Up w.heap.size) HD.out (fun j hj => Nat.le_trans HB.out.size hj) (hok _ (fun j hj => hj)) (by show 0 + k ≤ 1000000; omega) HB.out
      have HDO := Lib.hid hdo
      clear hdo hok
      generalize (actV (L.getD k noCall).1 (L.getD k noCall).2.1 (L.getD k noCall).2.2).toList = V at *
      go_wp2_with (refine wpList_load_mid rfl _ _ rfl b (off + k * 5) rfl V _ hrng hu rfl hsz ?_)
      refine HDO.out.mono ?_
      rintro e w5 ⟨rfl, hd5, ho5⟩
      have H5 := Lib.hid (And.intro hd5 (HB.out.trans (up_below ho5 HB.out.size))); clear hd5 ho5
      go_wp2_with fail
      go_roundw
      case rel => exact ⟨k + 1, by omega, by go_num, Lib.hid H5.out.1, Lib.hid H5.out.2⟩
      case measure => simp [intOf]; omega
    · obtain rfl : k = L.length := by omega
      obtain ⟨wc, hwc⟩ : ∃ x, x = wr := ⟨_, rfl⟩
      subst hwc
      have hDW : (actsK (Dk.new 4) L L.length).W.length ≤ 20 := Nat.le_trans (actsK_W _ _ _) (by show 0 + L.length ≤ 20; omega)
      have hDB : (actsK (Dk.new 4) L L.length).B.length = 4 := by rw [actsK_B]; rfl
      have HX := Lib.hid (And.intro hDW hDB)
      clear hDW hDB
      generalize actsK (Dk.new 4) L L.length = D at *
      go_wp2_with fail
      refine (copy_up HD.out).mono ?_
      rintro e w2 ⟨q, rfl, hc, hb2⟩
      have hd2 := diskAt_mono (S' := fun j => w.heap.size ≤ j ∧ j < wc.heap.size) HD.out (fun j hj h => ⟨h, hj⟩)
      have H2 := Lib.hid (And.intro hc (And.intro hb2 hd2)); clear hc hb2 hd2
      go_wp2_with fail
      go_loopw [9] (fun i wx => ∃ k : Nat, k ≤ M.length ∧ i = .int .i64 (k : Int) ∧ Hid (DiskAt wx (Up wc.heap.size) q (actsK D M k)) ∧ Hid (Below wc.heap.size wc wx))
        (fun i _ => M.length - (intOf i).toNat)
      case atStart => exact ⟨0, by omega, rfl, Lib.hid H2.out.1, Lib.hid H2.out.2.1⟩
      case round =>
        obtain ⟨k, hk, rfl, HD2, HB2⟩ := hrel
        by_cases hlt2 : k < M.length
        · obtain ⟨b, off, rfl, hrng, hok⟩ := call_at HH.out.2 (HB.out.trans (HB2.out.mono HB.out.size)) k hlt2
          have hsz := act_size (M.getD k noCall).1 (M.getD k noCall).2.1 (M.getD k noCall).2.2
          have hdo := do_at (w0 := w) (S := Up wc.heap.size) HD2.out (fun j hj => Nat.le_trans HB2.out.size hj) (hok _ (fun j hj => Nat.le_trans HB.out.size hj)) (by have := HX.out.1; omega) (HB.out.trans (HB2.out.mono HB.out.size))
          have HDO := Lib.hid hdo
          clear hdo hok
          generalize (actV (M.getD k noCall).1 (M.getD k noCall).2.1 (M.getD k noCall).2.2).toList = V at *
          go_wp2_with (refine wpList_load_mid rfl _ _ rfl b (off + k * 5) rfl V _ hrng hu rfl hsz ?_)
          refine HDO.out.mono ?_
          rintro e w5 ⟨rfl, hd5, ho5⟩
          have H5 := Lib.hid (And.intro hd5 (HB2.out.trans (up_below ho5 HB2.out.size))); clear hd5 ho5
          go_wp2_with fail
          go_roundw
          case rel => exact ⟨k + 1, by omega, by go_num, Lib.hid H5.out.1, Lib.hid H5.out.2⟩
          case measure => simp [intOf]; omega
        · obtain rfl : k = M.length := by omega
          obtain ⟨wd, hwd⟩ : ∃ x, x = wr := ⟨_, rfl⟩
          subst hwd
          have hd3 := diskAt_below H2.out.2.2 H2.out.2.1
          have hdw : DiskAt wd (fun j => w.heap.size ≤ j ∧ j < wc.heap.size) p D := diskAt_below (diskAt_mono HD.out (fun j hj h => ⟨h, hj⟩)) HB2.out
          have hde : DiskAt wd (fun j => (w.heap.size ≤ j ∧ j < wc.heap.size) ∨ wd.heap.size ≤ j) p D := diskAt_mono hdw (fun _ _ h => .inl h)
          have hcd := diskAt_mono (S' := fun j => wc.heap.size ≤ j ∧ j < wd.heap.size) HD2.out (fun j hj h => ⟨h, hj⟩)
          obtain ⟨gn, gk, cn, ck, ca, cc, hci⟩ := hcd
          have hok' := hci.ok
          have H3 := Lib.hid (And.intro hde (And.intro hci (HB.out.trans (HB2.out.mono HB.out.size))))
          have hBs := HB.out.size
          have hBs2 := HB2.out.size
          clear hd3 hdw hde hci HD HD2
          go_wp2_with fail
          go_loopw [10] (fun i wx => ∃ k : Nat, k ≤ M.length ∧ i = .int .i64 (k : Int) ∧ Hid (DiskAt wx (fun j => (w.heap.size ≤ j ∧ j < wc.heap.size) ∨ wd.heap.size ≤ j) p (actsK D M k)) ∧ Hid (Only (fun j => (w.heap.size ≤ j ∧ j < wc.heap.size) ∨ wd.heap.size ≤ j) wd wx))
            (fun i _ => M.length - (intOf i).toNat)
          case atStart => exact ⟨0, by omega, rfl, Lib.hid H3.out.1, Lib.hid (Only.refl _ _)⟩
          case round =>
            obtain ⟨k, hk, rfl, HD3, HO3⟩ := hrel
            have hb3 : Below w.heap.size wd wr := HO3.out.below (fun j _ h => by rcases h with h | h <;> omega) (by omega)
            by_cases hlt3 : k < M.length
            · obtain ⟨b, off, rfl, hrng, hok⟩ := call_at HH.out.2 (H3.out.2.2.trans hb3) k hlt3
              have hsz := act_size (M.getD k noCall).1 (M.getD k noCall).2.1 (M.getD k noCall).2.2
              have hdo := do_at (w0 := w) (S := fun j => (w.heap.size ≤ j ∧ j < wc.heap.size) ∨ wd.heap.size ≤ j) HD3.out (fun j hj => .inr (Nat.le_trans HO3.out.size hj)) (hok _ (fun j hj => by rcases hj with h | h <;> omega)) (by have := HX.out.1; omega) (H3.out.2.2.trans hb3)
              have HDO := Lib.hid hdo
              clear hdo hok
              generalize (actV (M.getD k noCall).1 (M.getD k noCall).2.1 (M.getD k noCall).2.2).toList = V at *
              go_wp2_with (refine wpList_load_mid rfl _ _ rfl b (off + k * 5) rfl V _ hrng hu rfl hsz ?_)
              refine HDO.out.mono ?_
              rintro e w5 ⟨rfl, hd5, ho5⟩
              have H5 := Lib.hid (And.intro hd5 (HO3.out.more ho5)); clear hd5 ho5
              go_wp2_with fail
              go_roundw
              case rel => exact ⟨k + 1, by omega, by go_num, Lib.hid H5.out.1, Lib.hid H5.out.2⟩
              case measure => simp [intOf]; omega
            · obtain rfl : k = M.length := by omega
              obtain ⟨we, hwe⟩ : ∃ x, x = wr := ⟨_, rfl⟩
              subst hwe
              obtain ⟨rr, hrr, hrc⟩ := H3.out.2.1.now
              have hqn : ¬ ((w.heap.size ≤ q ∧ q < wc.heap.size) ∨ wd.heap.size ≤ q) := by have := H3.out.2.1.sp; omega
              have hgn : ¬ ((w.heap.size ≤ gn ∧ gn < wc.heap.size) ∨ wd.heap.size ≤ gn) := by have := H3.out.2.1.sn; omega
              have hhead : HeadAt we q gn gk cn ck ca cc (actsK D M M.length) := rowV_only H3.out.2.1.head HO3.out hqn
              have hnow : BlocksAt we gn cn (Dk.over (actsK D M M.length).B (actsK D M M.length).W) := blocksAt_only H3.out.2.1.now HO3.out hgn
              have hB4 : (actsK D M M.length).B.length = 4 := by rw [actsK_B]; exact HX.out.2
              have H6 := Lib.hid (And.intro HD3.out (And.intro hhead (And.intro hnow (And.intro hok' (And.intro hB4 (H3.out.2.2.trans hb3))))))
              clear hhead hnow hok' hB4 hqn hgn hrr hrc hb3 HO3 HD3 H3
              generalize actsK D M M.length = E at *
              have hreads := fun i => And.intro (read_up H6.out.1 i) (read_any H6.out.2.2.2.1 H6.out.2.1 H6.out.2.2.1 i)
              have HR := Lib.hid hreads
              clear hreads
              go_wp2_with fail
              go_loopw [11] (fun i wx => ∃ k : Nat, k ≤ 4 ∧ i = .int .i64 (k : Int) ∧ Hid (wx = we))
                (fun i _ => 4 - (intOf i).toNat)
              case atStart => exact ⟨0, by omega, rfl, Lib.hid rfl⟩
              case round =>
                obtain ⟨k, hk, rfl, HW⟩ := hrel
                obtain rfl := HW.out
                by_cases hlt4 : k < 4
                · have hr1 := (HR.out (k : Int)).1
                  have hr2 := (HR.out (k : Int)).2
                  generalize Dk.readS E (k : Int) = s at *
                  generalize Dk.readE E (k : Int) = f at *
                  have HQ := Lib.hid (And.intro hr1 hr2)
                  clear hr1 hr2
                  go_wp2_with fail
                  refine HQ.out.1.mono ?_
                  rintro e v1 ⟨rfl, hv1⟩
                  obtain rfl := hv1.symm
                  clear hv1
                  go_wp2_with fail
                  refine HQ.out.2.mono ?_
                  rintro e v2 ⟨rfl, hv2⟩
                  obtain rfl := hv2.symm
                  clear hv2
                  go_wp2_with fail
                  go_roundw
                  case rel => exact ⟨k + 1, by omega, by go_num, Lib.hid trivial⟩
                  case measure => simp [intOf]; omega
                · have hk4 : k = 4 := by omega
                  have c1 := loose_up H6.out.1
                  have c2 := loose_any H6.out.2.1 H6.out.2.2.2.1
                  have c3 := len_up H6.out.1
                  have c4 := len_any H6.out.2.1 H6.out.2.2.2.1
                  rw [H6.out.2.2.2.2.1] at c3 c4
                  have HC := Lib.hid (And.intro c1 (And.intro c2 (And.intro c3 c4)))
                  clear c1 c2 c3 c4
                  go_wp2_with fail
                  refine HC.out.1.mono ?_
                  rintro e v1 ⟨rfl, hv1⟩
                  obtain rfl := hv1.symm
                  clear hv1
                  go_wp2_with fail
                  refine HC.out.2.1.mono ?_
                  rintro e v1 ⟨rfl, hv1⟩
                  obtain rfl := hv1.symm
                  clear hv1
                  go_wp2_with fail
                  refine HC.out.2.2.1.mono ?_
                  rintro e v1 ⟨rfl, hv1⟩
                  obtain rfl := hv1.symm
                  clear hv1
                  go_wp2_with fail
                  refine HC.out.2.2.2.mono ?_
                  rintro e v1 ⟨rfl, hv1⟩
                  obtain rfl := hv1.symm
                  clear hv1
                  go_wp2_with fail
                  refine (lives_any _).mono ?_
                  rintro e vz ⟨rfl, hbz⟩
                  have HZ := Lib.hid (H6.out.2.2.2.2.2.trans (hbz.mono H6.out.2.2.2.2.2.size)); clear hbz
                  go_wp2_with fail
                  go_ret
                  exact ⟨rfl, HZ.out⟩

set_option maxRecDepth 100000 in
theorem DiskSame_walk (L : List (DAct × Option Addr × Nat)) (la : Option Addr) (lc : Nat) (M : List (DAct × Option Addr × Nat)) (ma : Option Addr) (mc : Nat) (_h1 : L.length ≤ maxLen) (_h2 : M.length ≤ maxLen) (w : World) (hL : ReadsA w la L) (hM : ReadsA w ma M) :
    Calls Try.prog 5 #[.slice la L.length lc, .slice ma M.length mc] w fun e w' => e = .returned (.bool true) ∧ Below w.heap.size w w' := by
  by_cases l20 : L.length ≤ 20
  · by_cases m20 : M.length ≤ 20
    · exact same_small L M la ma lc mc w hL hM l20 m20
    · clear hL hM _h1 _h2
      go_enter Try.func5, Try.ntmps5
      go_wp2_with fail
      refine (lives_any _).mono ?_
      rintro e w1 ⟨rfl, hb⟩
      have H1 := Lib.hid hb; clear hb
      go_wp2_with fail
      go_ret
      exact ⟨rfl, H1.out⟩
  · clear hL hM _h1 _h2
    go_enter Try.func5, Try.ntmps5
    go_wp2_with fail
    refine (lives_any _).mono ?_
    rintro e w1 ⟨rfl, hb⟩
    have H1 := Lib.hid hb; clear hb
    go_wp2_with fail
    go_ret
    exact ⟨rfl, H1.out⟩
end Go.Proofs.Ytjefmmbkkdaeiaa
