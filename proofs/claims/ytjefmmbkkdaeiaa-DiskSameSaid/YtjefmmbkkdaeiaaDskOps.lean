/-
  Layer 4: what Read and Flush do.
-/
import Derived.Test.YtjefmmbkkdaeiaaDskFall
import Derived.Test.YtjefmmbkkdaeiaaQTail
import Derived.StillTailTactics
namespace Go.Proofs.Ytjefmmbkkdaeiaa
open Go.RowKit

theorem Only.of_drew {F : Nat → Prop} {w w' : World} (h : Only F w.drew w') : Only F w w' := ⟨h.os, h.tape, h.output, h.size, h.block⟩
theorem conv_block (w : World) (g o cap : Nat) (b : ByteArray) (hz : b.size = 512) (h : w.rangeAt g o (bv b)) : (convert 58 9 (.slice (some ⟨g, o, none⟩) 512 cap)).run Try.prog w = .ok (.string b) w := by
  have hl : b.data.toList.length = 512 := by rw [ba_len, hz]
  have hc := run_convert_bytes_arg w 58 5 Try.underlying58 Try.underlying5 g o 512 cap (b.data.toList.map fun x => (x.toNat : Int)) (by rw [List.length_map, hl]) (fun i hi => by
    have hlt : i < b.data.toList.length := by omega
    rw [h i _ (by unfold bv valB; rw [List.getElem?_map, List.getElem?_eq_getElem hlt]; rfl)]
    rw [List.getD_eq_getElem?_getD, List.getElem?_map, List.getElem?_eq_getElem hlt]; rfl) 9 Try.underlying9
  rw [hc]
  congr 2
  unfold strOfNums
  rw [List.map_map]
  have e : (List.map ((fun n => UInt8.ofNat n.toNat) ∘ fun x : UInt8 => (x.toNat : Int)) b.data.toList) = b.data.toList := by
    conv => rhs; rw [← List.map_id b.data.toList]
    apply List.map_congr_left
    intro x _
    simp
  rw [e]

set_option maxRecDepth 100000 in
theorem read_any {w : World} {p gn gk cn ck cap : Nat} {la : Option Addr} {d : Dk.D} (hd : Dk.Ok d) (hh : HeadAt w p gn gk cn ck la cap d) (hn : BlocksAt w gn cn (Dk.over d.B d.W)) (i : Int) :
    Calls Try.prog 17 #[.pointer (some ⟨p, 0, none⟩), .int .i64 i] w fun e w' => e = .returned (.tuple #[.string (Dk.readS d i), .int .i64 (Dk.readE d i)]) ∧ w' = w := by
  have ca := asked_any hh hd
  have ch := has_any hh i
  have c0 := head_now hh
  cases hg : d.gone with
  | true =>
    have e1 : Dk.readS d i = ByteArray.empty := by unfold Dk.readS; rw [if_pos hg]
    have e2 : Dk.readE d i = 7 := by unfold Dk.readE; rw [if_pos hg]
    rw [hg] at ca
    rw [e1, e2]
    have HH := Lib.hid ca; clear ca ch hh hn e1 e2 hg hd
    go_enter Try.func17, Try.ntmps17
    go_wp2_with fail
    refine HH.out.mono ?_
    rintro e _ ⟨rfl, rfl⟩
    go_wp2_with fail
    go_ret2
    exact ⟨rfl, rfl⟩
  | false =>
    rw [hg] at ca
    by_cases hi : 0 ≤ i ∧ i < d.B.length
    · have e1 : Dk.readS d i = Dk.blk (Dk.over d.B d.W) i.toNat := by unfold Dk.readS; rw [if_neg (by rw [hg]; simp), if_pos hi]
      have e2 : Dk.readE d i = 0 := by unfold Dk.readE; rw [if_neg (by rw [hg]; simp), if_pos hi]
      rw [e1, e2]
      obtain ⟨j, rfl⟩ : ∃ j : Nat, i = (j : Int) := ⟨i.toNat, by omega⟩
      have hj : j < d.B.length := by omega
      have hz := Dk.over_ok hd.size hd.loose
      have r1 := blocks_range hn hz j (by rw [Dk.over_len]; exact hj)
      have hcv := conv_block w gn (j * 512) 512 _ (Dk.blk_size hz j (by rw [Dk.over_len]; exact hj)) r1
      rw [decide_eq_true hi] at ch
      rw [show ((j : Int)).toNat = j from by omega]
      have HH := Lib.hid (And.intro ca ch); clear ca ch hh hn e1 e2 hg hd hz r1 hi
      generalize Dk.blk (Dk.over d.B d.W) j = b at *
      go_enter Try.func17, Try.ntmps17
      go_wp2_with fail
      refine HH.out.1.mono ?_
      rintro e _ ⟨rfl, rfl⟩
      go_wp2_with fail
      refine HH.out.2.mono ?_
      rintro e _ ⟨rfl, rfl⟩
      go_wp2_with fail
      go_ret2
      exact ⟨rfl, rfl⟩
    · have e1 : Dk.readS d i = ByteArray.empty := by unfold Dk.readS; rw [if_neg (by rw [hg]; simp), if_neg hi]
      have e2 : Dk.readE d i = 2 := by unfold Dk.readE; rw [if_neg (by rw [hg]; simp), if_neg hi]
      rw [e1, e2]
      rw [decide_eq_false hi] at ch
      have HH := Lib.hid (And.intro ca ch); clear ca ch hh hn e1 e2 hg hd hi
      go_enter Try.func17, Try.ntmps17
      go_wp2_with fail
      refine HH.out.1.mono ?_
      rintro e _ ⟨rfl, rfl⟩
      go_wp2_with fail
      refine HH.out.2.mono ?_
      rintro e _ ⟨rfl, rfl⟩
      go_wp2_with fail
      go_ret2
      exact ⟨rfl, rfl⟩

theorem headAt_size {w : World} {p gn gk cn ck cap : Nat} {la : Option Addr} {d d' : Dk.D} (h : HeadAt w p gn gk cn ck la cap d) (h1 : d'.B.length = d.B.length) (h2 : d'.W.length = d.W.length) (h3 : d'.fuse = d.fuse) (h4 : d'.gone = d.gone) : HeadAt w p gn gk cn ck la cap d' := by
  unfold HeadAt
  rw [h1, h2, h3, h4]; exact h
theorem spent_B (d : Dk.D) : (Dk.spent d).B = d.B := by unfold Dk.spent; split <;> rfl
theorem spent_W (d : Dk.D) : (Dk.spent d).W = d.W := by unfold Dk.spent; split <;> rfl
/-- behind spend -/
theorem diskIn_spent {w w' : World} {S : Nat → Prop} {p gn gk cn ck cap : Nat} {la : Option Addr} {d : Dk.D} (h : DiskIn w S p gn gk cn ck la cap d) (hh : HeadAt w' p gn gk cn ck la cap (Dk.spent d)) (ho : Only (fun k => k = p) w w') : DiskIn w' S p gn gk cn ck la cap (Dk.spent d) := by
  refine ⟨Dk.spent_ok h.ok, hh, ?_, ?_, ?_, h.pn, h.pk, h.nk, h.sp, h.sn, h.sk⟩
  · rw [spent_B, spent_W]; exact blocksAt_only h.now ho (fun e => h.pn e)
  · rw [spent_B]; exact blocksAt_only h.kept ho (fun e => h.pk e)
  · rw [spent_W]
    refine looseAt_only h.loose ho ?_
    rintro a rfl
    rcases h.loose with ⟨h1, _⟩ | ⟨g, r, h1, _, _, _, h5, _⟩
    · cases h1
    · cases h1; exact h5

set_option maxRecDepth 100000 in
set_option maxHeartbeats 800000 in
theorem flush_any {w : World} {S : Nat → Prop} {p gn gk cn ck cap : Nat} {la : Option Addr} {d : Dk.D} (h : DiskIn w S p gn gk cn ck la cap d) :
    Calls Try.prog 15 #[.pointer (some ⟨p, 0, none⟩)] w fun e w' => e = .returned (.int .i64 (Dk.flushE d)) ∧ DiskNext w' S p (Dk.flush d) la ∧ Only S w w' := by
  have ca := asked_any h.head h.ok
  cases hg : d.gone with
  | true =>
    have e1 : Dk.flush d = d := by unfold Dk.flush; rw [if_pos hg]
    have e2 : Dk.flushE d = 7 := by unfold Dk.flushE; rw [if_pos hg]
    rw [hg] at ca
    rw [e1, e2]
    have HH := Lib.hid (And.intro ca h); clear ca h e1 e2 hg
    go_enter Try.func15, Try.ntmps15
    go_wp2_with fail
    refine HH.out.1.mono ?_
    rintro e _ ⟨rfl, rfl⟩
    go_wp2_with fail
    go_ret
    exact ⟨rfl, ⟨_, _, _, _, _, _, HH.out.2, .inr (.inl rfl)⟩, Only.refl _ _⟩
  | false =>
    rw [hg] at ca
    have cs := spend_any h.head h.ok
    by_cases h0 : d.fuse = 0
    · have e1 : Dk.flush d = Dk.spent d := by unfold Dk.flush Dk.spent; rw [if_neg (by rw [hg]; simp), if_pos h0, if_pos h0]
      have e2 : Dk.flushE d = 7 := by unfold Dk.flushE; rw [if_neg (by rw [hg]; simp), if_pos h0]
      have e3 : Dk.spendE d = 7 := by unfold Dk.spendE; rw [if_pos h0]
      rw [e1, e2]
      rw [e3] at cs
      have HH := Lib.hid (And.intro ca (And.intro cs h)); clear ca cs h e1 e2 e3 hg h0
      go_enter Try.func15, Try.ntmps15
      go_wp2_with fail
      refine HH.out.1.mono ?_
      rintro e _ ⟨rfl, rfl⟩
      go_wp2_with fail
      refine HH.out.2.1.mono ?_
      rintro e w1 ⟨rfl, hh1, ho1⟩
      have H1 := Lib.hid (And.intro hh1 ho1); clear hh1 ho1
      go_wp2_with fail
      go_ret
      exact ⟨rfl, ⟨_, _, _, _, _, _, diskIn_spent HH.out.2.2 H1.out.1 H1.out.2, .inr (.inl rfl)⟩, H1.out.2.mono fun k _ e => e ▸ HH.out.2.2.sp⟩
    · have e1 : Dk.flush d = ⟨Dk.over d.B d.W, [], Dk.burn d.fuse, d.gone⟩ := by unfold Dk.flush; rw [if_neg (by rw [hg]; simp), if_neg h0]
      have e2 : Dk.flushE d = 0 := by unfold Dk.flushE; rw [if_neg (by rw [hg]; simp), if_neg h0]
      have e3 : Dk.spendE d = 0 := by unfold Dk.spendE; rw [if_neg h0]
      have e4 : Dk.spent d = ⟨d.B, d.W, Dk.burn d.fuse, d.gone⟩ := by unfold Dk.spent; rw [if_neg h0]
      have hok := Dk.flush_ok h.ok
      rw [e1] at hok
      rw [e1, e2]
      rw [e3] at cs
      have HH := Lib.hid (And.intro ca (And.intro cs (And.intro h (And.intro e4 hok)))); clear ca cs h e1 e2 e3 e4 hg h0 hok
      go_enter Try.func15, Try.ntmps15
      go_wp2_with fail
      refine HH.out.1.mono ?_
      rintro e _ ⟨rfl, rfl⟩
      go_wp2_with fail
      refine HH.out.2.1.mono ?_
      rintro e w1 ⟨rfl, hh1, ho1⟩
      have hin := diskIn_spent HH.out.2.2.1 hh1 ho1
      rw [HH.out.2.2.2.1] at hin
      have c0 := head_now hin.head
      have c1 := head_kept hin.head
      have H1 := Lib.hid (And.intro hin ho1); clear hh1 ho1 hin
      go_wp2_with fail
      go_still_tail 9, (by kernel_rfl)
      change wpList _ _ _ _ _ w1.drew
      clear c0 c1
      go_wp2_with fail
      have hin := H1.out.1
      have hs := settle_any (w := w1.drew) (d := ⟨d.B, d.W, Dk.burn d.fuse, d.gone⟩) gk ck gn cn d.B (Dk.over d.B d.W) hin.ok hin.head hin.loose hin.kept hin.now hin.ok.size (Dk.over_ok hin.ok.size hin.ok.loose) rfl (Dk.over_len _ _) hin.pk hin.nk hin.pn
        (by
          rintro a rfl
          rcases hin.loose with ⟨h1, _⟩ | ⟨g, r, h1, _, _, _, _, _, h7, _⟩
          · cases h1
          · cases h1; exact h7)
      clear hin
      refine hs.mono ?_
      rintro e w2 ⟨rfl, hh2, hk2, ho2⟩
      have H2 := Lib.hid (And.intro hh2 (And.intro hk2 ho2)); clear hh2 hk2 ho2 hs
      go_wp2_with fail
      go_ret
      have hin := H1.out.1
      have ho2 : Only (fun k => k = p ∨ k = gk) w1 w2 := H2.out.2.2.of_drew
      refine ⟨rfl, ⟨gn, gk, cn, ck, none, 0, ⟨HH.out.2.2.2.2, headAt_size H2.out.1 (Dk.over_len _ _) rfl rfl rfl, ?_, ?_, .inl ⟨rfl, rfl, rfl⟩, hin.pn, hin.pk, hin.nk, hin.sp, hin.sn, hin.sk⟩, .inl rfl⟩, ?_⟩
      · exact blocksAt_only hin.now ho2 (fun e => by rcases e with e | e; exact hin.pn e; exact hin.nk e.symm)
      · have := H2.out.2.1
        rw [Dk.settle_flush] at this
        exact this
      · exact (H1.out.2.mono (G := S) fun k _ e => e ▸ hin.sp).trans (ho2.mono (G := S) fun k _ e => by rcases e with e | e; exact e ▸ hin.sp; exact e ▸ hin.sk) fun _ _ x => x
end Go.Proofs.Ytjefmmbkkdaeiaa
