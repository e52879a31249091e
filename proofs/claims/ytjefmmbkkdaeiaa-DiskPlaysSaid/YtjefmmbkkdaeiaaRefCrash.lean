/-
  Layer 4: what the document's Crash does.
-/
import Derived.Test.YtjefmmbkkdaeiaaRefFlush
import Derived.Test.YtjefmmbkkdaeiaaDskCrash
import Derived.Laws.DeepStrings4
namespace Go.Proofs.Ytjefmmbkkdaeiaa
open Go.RowKit

theorem crashK_same (B : List ByteArray) (W : List (Nat × ByteArray)) (F : List Int) (k : Nat) (h : Dk.falls (F.getD k 0) (Dk.blk (Dk.crashK B W F k) (W.getD k (0, ByteArray.empty)).1) (W.getD k (0, ByteArray.empty)).2 = Dk.blk (Dk.crashK B W F k) (W.getD k (0, ByteArray.empty)).1) : Dk.crashK B W F (k + 1) = Dk.crashK B W F k := by
  rw [Dk.crashK, h]
  apply Dk.blk_ext (by rw [List.length_set])
  intro i hi
  rw [Dk.getD_set]
  split
  · rename_i h2; rw [h2.1]
  · rfl
set_option maxRecDepth 100000 in
set_option maxHeartbeats 3200000 in
theorem rcrash_any {w : World} {S : Nat → Prop} {q cb cw : Nat} {lb lw : Option Addr} {d : Dk.D} (h : RefIn w S q cb cw lb lw d) (fa : Option Addr) (F : List Int) (fc : Nat) (hF : ReadsI w fa F) (hfa : ∀ a, fa = some a → F ≠ [] → ¬ S a.block) :
    Calls Try.prog 26 #[.pointer (some ⟨q, 0, none⟩), .slice fa F.length fc] w fun e w' => e = .returned (.tuple #[]) ∧ RefAt w' S q (Dk.crash d F) ∧ Only S w w' := by
  have hlenW := listAt_len h.loose
  have hlen : d.W.length ≤ maxLen := Nat.le_trans hlenW.1 hlenW.2
  unfold maxLen at hlen
  obtain ⟨gb, hlb, hgl, hgS, hgA⟩ := head_block h.blocks h.ok.pos
  subst hlb
  have hwv : ∀ a, lw = some a → a.block ≠ gb := fun a ha e => by
    obtain ⟨g, rfl, _, _, h3⟩ := listAt_block h.loose a ha
    exact h3 (.inr ⟨_, rfl, e.symm⟩)
  have HH := Lib.hid (And.intro h (And.intro hF (And.intro hfa (And.intro hgS (And.intro hgA hwv))))); clear h hF hfa hlenW hgl hgS hgA hwv
  go_enter Try.func26, Try.ntmps26
  go_wp2_with fail
  go_loopw [4, 5, 6, 7] (fun kv _ _ _ wr => ∃ k : Nat, k ≤ d.W.length ∧ kv = .int .i64 (k : Int) ∧ Hid (ListAt sB 1 9 wr S (fun x => x = q) (some ⟨gb, 0, none⟩) cb (Dk.crashK d.B d.W F k)) ∧ Hid (Only (fun x => x = gb) w wr))
    (fun kv _ _ _ _ => d.W.length - (intOf kv).toNat)
  case atStart => exact ⟨0, by omega, rfl, Lib.hid HH.out.1.blocks, Lib.hid (Only.refl _ _)⟩
  case round =>
    obtain ⟨k, hk, rfl, HB, HO⟩ := hrel
    have hhr : RHead wr q cb cw (some ⟨gb, 0, none⟩) lw d := rowV_only HH.out.1.head HO.out (fun e => HH.out.2.2.2.2.1 e.symm)
    have c1 := rhead_W hhr
    by_cases hlt : k < d.W.length
    · have c0 := rhead_B hhr
      obtain ⟨g, hlw, ci, cs⟩ := ref_loose (listAt_only HH.out.1.loose HO.out (fun a ha e => HH.out.2.2.2.2.2 a ha e)) k hlt
      subst hlw
      have hm := HH.out.1.ok.loose _ (Dk.getD_mem d.W k (0, ByteArray.empty) hlt)
      have hat2 : (d.W.getD k (0, ByteArray.empty)).1 < (Dk.crashK d.B d.W F k).length := by rw [Dk.crashK_len]; exact hm.1
      have zK := Dk.crashK_ok F HH.out.1.ok.size HH.out.1.ok.loose k hk
      have zo := Dk.blk_size zK _ hat2
      obtain ⟨g2, hg2, cx, fx⟩ := ref_block HB.out _ hat2
      cases hg2
      have zs := hm.2
      have hatB : ((d.W.getD k (0, ByteArray.empty)).1 : Int) < (d.B.length : Int) := by have := hm.1; omega
      have hset : ∀ (x : ByteArray) (f : Int), F.getD k 0 = f → Dk.falls f (Dk.blk (Dk.crashK d.B d.W F k) (d.W.getD k (0, ByteArray.empty)).1) (d.W.getD k (0, ByteArray.empty)).2 = x → ListAt sB 1 9 (wr.setCell ⟨gb, (d.W.getD k (0, ByteArray.empty)).1, none⟩ (.string x)) S (fun x => x = q) (some ⟨gb, 0, none⟩) cb (Dk.crashK d.B d.W F (k + 1)) := fun x f hf hx => by
        have h1 := ref_set HB.out gb rfl _ hat2 x
        rw [← hx, ← hf] at h1 ⊢
        exact h1
      have hon : ∀ x, Only (fun x => x = gb) w (wr.setCell ⟨gb, (d.W.getD k (0, ByteArray.empty)).1, none⟩ (.string x)) := fun x => HO.out.setCell (g := gb) (i := (d.W.getD k (0, ByteArray.empty)).1) (fun _ => rfl) (.string x)
      have hf : ∃ f : Int, F.getD k 0 = f ∧ (k < F.length → ∃ b off, fa = some ⟨b, off, none⟩ ∧ wr.cell? ⟨b, off + k, none⟩ = some (.int .i64 f)) ∧ (¬ k < F.length → f = 0) := by
        refine ⟨_, rfl, fun hkF => ?_, fun hkF => by rw [List.getD_eq_getElem?_getD, List.getElem?_eq_none (by omega)]; rfl⟩
        obtain ⟨b, off, e1, e2⟩ := HH.out.2.1 k hkF
        refine ⟨b, off, e1, ?_⟩
        rw [HO.out.cell (p := ⟨b, off + k, none⟩) (World.block_lt_of_cell? w _ e2) (fun e => HH.out.2.2.1 _ e1 (ne_nil hkF) (by rw [show b = gb from e]; exact HH.out.2.2.2.1)), e2, List.getD_eq_getElem?_getD, List.getElem?_eq_getElem hkF]
        rfl
      obtain ⟨f, hfk, hfc, hf0⟩ := hf
      have hsame := crashK_same d.B d.W F k
      rw [hfk] at hsame
      have HE := Lib.hid (And.intro (fun x => hset x f hfk) (And.intro hon (And.intro hsame (And.intro HB.out HO.out))))
      clear hset hon hat2 hhr HB HO zK hm hsame hfk
      obtain ⟨CK2, hCK⟩ : ∃ A, Dk.crashK d.B d.W F (k + 1) = A := ⟨_, rfl⟩
      have HCK := Lib.hid hCK
      rw [hCK] at HE
      clear hCK
      generalize (d.W.getD k (0, ByteArray.empty)).1 = at_ at *
      generalize (d.W.getD k (0, ByteArray.empty)).2 = s at *
      generalize Dk.blk (Dk.crashK d.B d.W F k) at_ = old at *
      generalize Dk.crashK d.B d.W F k = CK at *
      by_cases hkF : k < F.length
      · obtain ⟨b, off, rfl, hfcell⟩ := hfc hkF
        clear hfc hf0
        by_cases f1 : f = 1
        · subst f1
          have HV : Hid (Dk.falls 1 old s = s) := Lib.hid (by unfold Dk.falls; rw [if_pos rfl])
          go_wp2_with fail
          go_quiet (fail)
          go_wp2_with fail
          go_roundw
          case rel => exact ⟨k + 1, by omega, by go_num, Lib.hid (by rw [HCK.out]; exact listAt_only (HE.out.1 _ HV.out) ((Only.refl (fun _ => False) _).drewN nq) (fun _ _ h => h)), Lib.hid ((HE.out.2.1 _).drewN nq)⟩
          case measure => simp [intOf]; omega
        · have q1 : (f == 1) = false := by rw [beq_eq_false_iff_ne]; exact f1
          by_cases f2 : f = 2
          · subst f2
            have HV : Hid (Dk.falls 2 old s = s.extract 0 256 ++ old.extract 256 512) := Lib.hid (by unfold Dk.falls; rw [if_neg (by omega), if_pos rfl])
            go_wp2_with fail
            go_quiet (fail)
            go_wp2_with fail
            generalize hwq : wr.drewN nq = wq
            have ec : wr.cell? = wq.cell? := by rw [← hwq]; rfl
            have ef : wr.frozen? = wq.frozen? := by rw [← hwq]; rfl
            rw [ec] at c0 c1 cx
            rw [ef] at fx
            have HQ : Hid (ListAt sB 1 9 (wq.setCell ⟨gb, at_, none⟩ (.string (s.extract 0 256 ++ old.extract 256 512))) S (fun x => x = q) (some ⟨gb, 0, none⟩) cb CK2 ∧ Only (fun x => x = gb) w (wq.setCell ⟨gb, at_, none⟩ (.string (s.extract 0 256 ++ old.extract 256 512)))) := Lib.hid (by
              rw [← hwq]
              exact ⟨listAt_only (HE.out.1 _ HV.out) ((Only.refl (fun _ => False) _).drewN nq) (fun _ _ h => h), (HE.out.2.1 _).drewN nq⟩)
            clear hwq ec ef
            refine wp_region_quiet_tail (C := fun w' => ∃ n, w' = wq.drewN n) 17 (by kernel_rfl) (by kernel_rfl) ⟨1, rfl⟩ ?_
            simp only [List.take_succ_cons, List.take_zero, List.drop_succ_cons, List.drop_zero]
            iterate 17 (go_big_quiet_step (fail))
            refine wpQuiet_nil ?_
            rintro _ ⟨n2, rfl⟩
            go_wp2_with fail
            go_roundw
            case rel => exact ⟨k + 1, by omega, by go_num, Lib.hid (by rw [HCK.out]; exact listAt_only HQ.out.1 ((Only.refl (fun _ => False) _).drewN n2) (fun _ _ h => h)), Lib.hid (HQ.out.2.drewN n2)⟩
            case measure => simp [intOf]; omega
          · have q2 : (f == 2) = false := by rw [beq_eq_false_iff_ne]; exact f2
            by_cases f3 : f = 3
            · subst f3
              have HV : Hid (Dk.falls 3 old s = old.extract 0 256 ++ s.extract 256 512) := Lib.hid (by unfold Dk.falls; rw [if_neg (by omega), if_neg (by omega), if_pos rfl])
              go_wp2_with fail
              go_quiet (fail)
              go_wp2_with fail
              generalize hwq : wr.drewN nq = wq
              have ec : wr.cell? = wq.cell? := by rw [← hwq]; rfl
              have ef : wr.frozen? = wq.frozen? := by rw [← hwq]; rfl
              rw [ec] at c0 c1 cx
              rw [ef] at fx
              have HQ : Hid (ListAt sB 1 9 (wq.setCell ⟨gb, at_, none⟩ (.string (old.extract 0 256 ++ s.extract 256 512))) S (fun x => x = q) (some ⟨gb, 0, none⟩) cb CK2 ∧ Only (fun x => x = gb) w (wq.setCell ⟨gb, at_, none⟩ (.string (old.extract 0 256 ++ s.extract 256 512)))) := Lib.hid (by
                rw [← hwq]
                exact ⟨listAt_only (HE.out.1 _ HV.out) ((Only.refl (fun _ => False) _).drewN nq) (fun _ _ h => h), (HE.out.2.1 _).drewN nq⟩)
              clear hwq ec ef
              refine wp_region_quiet_tail (C := fun w' => ∃ n, w' = wq.drewN n) 17 (by kernel_rfl) (by kernel_rfl) ⟨1, rfl⟩ ?_
              simp only [List.take_succ_cons, List.take_zero, List.drop_succ_cons, List.drop_zero]
              iterate 17 (go_big_quiet_step (fail))
              refine wpQuiet_nil ?_
              rintro _ ⟨n2, rfl⟩
              go_wp2_with fail
              go_roundw
              case rel => exact ⟨k + 1, by omega, by go_num, Lib.hid (by rw [HCK.out]; exact listAt_only HQ.out.1 ((Only.refl (fun _ => False) _).drewN n2) (fun _ _ h => h)), Lib.hid (HQ.out.2.drewN n2)⟩
              case measure => simp [intOf]; omega
            · have q3 : (f == 3) = false := by rw [beq_eq_false_iff_ne]; exact f3
              have HV : Hid (CK2 = CK) := Lib.hid (HE.out.2.2.1 (by unfold Dk.falls; rw [if_neg f1, if_neg f2, if_neg f3]))
              go_wp2_with fail
              go_quiet (fail)
              go_wp2_with fail
              go_roundw
              case rel => exact ⟨k + 1, by omega, by go_num, Lib.hid (by rw [HCK.out, HV.out]; exact HE.out.2.2.2.1), Lib.hid (HE.out.2.2.2.2.drewN nq)⟩
              case measure => simp [intOf]; omega
      · obtain rfl := hf0 hkF
        clear hfc hf0
        have HV : Hid (CK2 = CK) := Lib.hid (HE.out.2.2.1 (by unfold Dk.falls; rw [if_neg (by omega), if_neg (by omega), if_neg (by omega)]))
        go_wp2_with fail
        go_quiet (fail)
        go_wp2_with fail
        go_roundw
        case rel => exact ⟨k + 1, by omega, by go_num, Lib.hid (by rw [HCK.out, HV.out]; exact HE.out.2.2.2.1), Lib.hid (HE.out.2.2.2.2.drewN nq)⟩
        case measure => simp [intOf]; omega
    · obtain rfl : k = d.W.length := by omega
      have f1 := rowV_frozen hhr 1
      have f2 := rowV_frozen hhr 2
      have f3 := rowV_frozen hhr 3
      have k2 := rhead_fuse hhr
      have k3 := rhead_gone hhr
      have hst := rowV_stored (rowV_stored (rowV_stored hhr 1 (.slice none 0 0)) 3 (.bool false)) 2 (.int .i64 (-1))
      have hp : Only (fun x => x = q) wr (((wr.setCell ⟨q, 1, none⟩ (.slice none 0 0)).setCell ⟨q, 3, none⟩ (.bool false)).setCell ⟨q, 2, none⟩ (.int .i64 (-1))) := (((Only.refl (fun x => x = q) wr).setCell (g := q) (i := 1) (fun _ => rfl) _).setCell (g := q) (i := 3) (fun _ => rfl) _).setCell (g := q) (i := 2) (fun _ => rfl) _
      have HE := Lib.hid (And.intro hst hp)
      clear hst hp hhr
      go_wp2_with fail
      go_end0
      obtain ⟨hst, hp⟩ := HE.out
      refine ⟨rfl, ⟨cb, 0, some ⟨gb, 0, none⟩, none, ⟨Dk.crash_ok HH.out.1.ok F, ?_, ?_, .inl ⟨rfl, rfl, rfl⟩, HH.out.1.sq⟩⟩, (HO.out.mono (G := S) fun k _ e => e ▸ HH.out.2.2.2.1).trans (hp.mono (G := S) fun k _ e => e ▸ HH.out.1.sq) fun _ _ h => h⟩
      · unfold RHead Dk.crash
        rw [Dk.crashK_len]
        exact hst
      · exact listAt_only HB.out hp (fun a ha => by cases ha; exact fun e => HH.out.2.2.2.2.1 e)
end Go.Proofs.Ytjefmmbkkdaeiaa
