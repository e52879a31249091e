/-
  Layer 4: what the document's Flush does.
-/
import Derived.Test.YtjefmmbkkdaeiaaRefRead
import Derived.BigQuiet
namespace Go.Proofs.Ytjefmmbkkdaeiaa
open Go.RowKit

theorem head_block {w : World} {S Av : Nat → Prop} {lb : Option Addr} {cb : Nat} {B : List ByteArray} (h : ListAt sB 1 9 w S Av lb cb B) (hB : 1 ≤ B.length) : ∃ g, lb = some ⟨g, 0, none⟩ ∧ g < w.heap.size ∧ S g ∧ ¬ Av g := by
  rcases h with ⟨_, _, h3⟩ | ⟨g, r, h1, h2, h3, h4, h5, h6, h7⟩
  · rw [h3] at hB; simp at hB
  · exact ⟨g, h1, rowV_lt h2, h6, h5⟩
set_option maxRecDepth 100000 in
set_option maxHeartbeats 1600000 in
theorem rflush_any {w : World} {S : Nat → Prop} {q cb cw : Nat} {lb lw : Option Addr} {d : Dk.D} (h : RefIn w S q cb cw lb lw d) :
    Calls Try.prog 24 #[.pointer (some ⟨q, 0, none⟩)] w fun e w' => e = .returned (.int .i64 (Dk.flushE d)) ∧ RefAt w' S q (Dk.flush d) ∧ Only S w w' := by
  have c4 := rhead_gone h.head
  have cg := goes_any h.head h.ok
  cases hg : d.gone with
  | true =>
    have e1 : Dk.flush d = d := by unfold Dk.flush; rw [if_pos hg]
    have e2 : Dk.flushE d = 7 := by unfold Dk.flushE; rw [if_pos hg]
    rw [hg] at c4
    rw [e1, e2]
    have HH := Lib.hid h; clear cg h e1 e2 hg
    go_enter Try.func24, Try.ntmps24
    go_wp2_with fail
    go_ret
    exact ⟨rfl, ⟨_, _, _, _, HH.out⟩, Only.refl _ _⟩
  | false =>
    rw [hg] at c4
    have hgf : ¬ d.gone = true := by rw [hg]; simp
    by_cases h0 : d.fuse = 0
    · have e1 : Dk.flush d = Dk.spent d := by unfold Dk.flush Dk.spent; rw [if_neg hgf, if_pos h0, if_pos h0]
      have e2 : Dk.flushE d = 7 := by unfold Dk.flushE; rw [if_neg hgf, if_pos h0]
      rw [e1, e2]
      rw [decide_eq_true h0] at cg
      have HH := Lib.hid (And.intro cg h); clear cg h e1 e2 hg hgf h0
      go_enter Try.func24, Try.ntmps24
      go_wp2_with fail
      refine HH.out.1.mono ?_
      rintro e w1 ⟨rfl, hh1, ho1⟩
      have H1 := Lib.hid (And.intro hh1 ho1); clear hh1 ho1
      go_wp2_with fail
      go_ret
      exact ⟨rfl, ⟨_, _, _, _, refIn_spent HH.out.2 H1.out.1 H1.out.2⟩, H1.out.2.mono fun k _ e => e ▸ HH.out.2.sq⟩
    · have e1 : Dk.flush d = ⟨Dk.over d.B d.W, [], Dk.burn d.fuse, d.gone⟩ := by unfold Dk.flush; rw [if_neg hgf, if_neg h0]
      have e2 : Dk.flushE d = 0 := by unfold Dk.flushE; rw [if_neg hgf, if_neg h0]
      have e4 : Dk.spent d = ⟨d.B, d.W, Dk.burn d.fuse, d.gone⟩ := by unfold Dk.spent; rw [if_neg h0]
      have hok := Dk.flush_ok h.ok
      rw [e1] at hok
      rw [e1, e2]
      rw [decide_eq_false h0] at cg
      have hlenW := listAt_len h.loose
      have hlen : d.W.length ≤ maxLen := Nat.le_trans hlenW.1 hlenW.2
      unfold maxLen at hlen
      have HH := Lib.hid (And.intro cg (And.intro h (And.intro e4 hok))); clear cg h e1 e2 e4 hg hgf h0 hok hlenW
      go_enter Try.func24, Try.ntmps24
      go_wp2_with fail
      refine HH.out.1.mono ?_
      rintro e w1 ⟨rfl, hh1, ho1⟩
      have hin := refIn_spent HH.out.2.1 hh1 ho1
      rw [HH.out.2.2.1] at hin
      obtain ⟨gb, hlb, hgl, hgS, hgA⟩ := head_block hin.blocks hin.ok.pos
      subst hlb
      have hwv : ∀ a, lw = some a → a.block ≠ gb := fun a ha e => by
        obtain ⟨g, rfl, _, _, h3⟩ := listAt_block hin.loose a ha
        exact h3 (.inr ⟨_, rfl, e.symm⟩)
      have H1 := Lib.hid (And.intro hin (And.intro ho1 (And.intro hgS (And.intro hgA hwv)))); clear hh1 ho1 hin hgl hgS hgA hwv
      go_wp2_with fail
      go_loopw [3] (fun kv wr => ∃ k : Nat, k ≤ d.W.length ∧ kv = .int .i64 (k : Int) ∧ Hid (ListAt sB 1 9 wr S (fun x => x = q) (some ⟨gb, 0, none⟩) cb (Dk.overK d.B d.W k)) ∧ Hid (Only (fun x => x = gb) w1 wr))
        (fun kv _ => d.W.length - (intOf kv).toNat)
      case atStart => exact ⟨0, by omega, rfl, Lib.hid H1.out.1.blocks, Lib.hid (Only.refl _ _)⟩
      case round =>
        obtain ⟨k, hk, rfl, HB, HO⟩ := hrel
        have hhr : RHead wr q cb cw (some ⟨gb, 0, none⟩) lw ⟨d.B, d.W, Dk.burn d.fuse, d.gone⟩ := rowV_only H1.out.1.head HO.out (fun e => H1.out.2.2.2.1 e.symm)
        have c1 := rhead_W hhr
        by_cases hlt : k < d.W.length
        · have c0 := rhead_B hhr
          obtain ⟨g, hlw, ci, cs⟩ := ref_loose (listAt_only H1.out.1.loose HO.out (fun a ha e => H1.out.2.2.2.2 a ha e)) k hlt
          subst hlw
          have hat := (H1.out.1.ok.loose _ (Dk.getD_mem d.W k (0, ByteArray.empty) hlt)).1
          have hat2 : (d.W.getD k (0, ByteArray.empty)).1 < (Dk.overK d.B d.W k).length := by rw [Dk.overK_len]; exact hat
          obtain ⟨g2, hg2, cx, fx⟩ := ref_block HB.out _ hat2
          cases hg2
          have hset := ref_set HB.out gb rfl _ hat2 (d.W.getD k (0, ByteArray.empty)).2
          have hon := HO.out.setCell (g := gb) (i := (d.W.getD k (0, ByteArray.empty)).1) (fun _ => rfl) (.string (d.W.getD k (0, ByteArray.empty)).2)
          have HE := Lib.hid (And.intro hset hon)
          have hsucc : Hid ((Dk.overK d.B d.W k).set (d.W.getD k (0, ByteArray.empty)).1 (d.W.getD k (0, ByteArray.empty)).2 = Dk.overK d.B d.W (k + 1)) := Lib.hid rfl
          clear hset hon hat2 hhr HB HO
          have hatB : ((d.W.getD k (0, ByteArray.empty)).1 : Int) < (d.B.length : Int) := by have : (d.W.getD k (0, ByteArray.empty)).1 < d.B.length := hat; omega
          clear hat
          generalize (d.W.getD k (0, ByteArray.empty)).1 = at_ at *
          generalize (d.W.getD k (0, ByteArray.empty)).2 = s at *
          generalize Dk.blk (Dk.overK d.B d.W k) at_ = old at *
          go_wp2_with fail
          refine wp_region_quiet_tail (C := fun w' => ∃ n, w' = wr.drewN n) 21 (by kernel_rfl) (by kernel_rfl) ⟨1, rfl⟩ ?_
          simp only [List.take_succ_cons, List.take_zero, List.drop_succ_cons, List.drop_zero]
          iterate 21 (go_big_quiet_step (fail))
          refine wpQuiet_nil ?_
          rintro _ ⟨nq, rfl⟩
          go_wp2_with fail
          go_roundw
          case rel => exact ⟨k + 1, by omega, by go_num, Lib.hid (by rw [← hsucc.out]; exact listAt_only HE.out.1 ((Only.refl (fun _ => False) _).drewN nq) (fun _ _ h => h)), Lib.hid (HE.out.2.drewN nq)⟩
          case measure => simp [intOf]; omega
        · obtain rfl : k = d.W.length := by omega
          have f1 := rowV_frozen hhr 1
          have hst := rowV_stored hhr 1 (.slice none 0 0)
          have hp : Only (fun x => x = q) wr (wr.setCell ⟨q, 1, none⟩ (.slice none 0 0)) := (Only.refl (fun x => x = q) wr).setCell (g := q) (i := 1) (fun _ => rfl) _
          have HE := Lib.hid (And.intro hst hp)
          clear hst hp hhr
          go_wp2_with fail
          go_ret
          obtain ⟨hst, hp⟩ := HE.out
          refine ⟨rfl, ⟨cb, 0, some ⟨gb, 0, none⟩, none, ⟨HH.out.2.2.2, ?_, ?_, .inl ⟨rfl, rfl, rfl⟩, H1.out.1.sq⟩⟩, ((H1.out.2.1.mono (G := S) fun k _ e => e ▸ H1.out.1.sq).trans (HO.out.mono (G := S) fun k _ e => e ▸ H1.out.2.2.1) fun _ _ h => h).trans (hp.mono (G := S) fun k _ e => e ▸ H1.out.1.sq) fun _ _ h => h⟩
          · unfold RHead
            rw [Dk.over_len]
            exact hst
          · exact listAt_only HB.out hp (fun a ha => by cases ha; exact fun e => H1.out.2.2.2.1 e)
end Go.Proofs.Ytjefmmbkkdaeiaa
