/-
  Layer 4: what Crash does.
-/
import Derived.Test.YtjefmmbkkdaeiaaDskOps
import Derived.Sort.AtCall
import Derived.StillTailTactics
namespace Go.Proofs.Ytjefmmbkkdaeiaa
open Go.RowKit

/-- the slice at a reads as the integers l -/
def ReadsI (w : World) (a : Option Addr) (l : List Int) : Prop := ∀ i (h : i < l.length), ∃ b off, a = some ⟨b, off, none⟩ ∧ w.cell? ⟨b, off + i, none⟩ = some (.int .i64 (l[i]))
theorem readsI_none (w : World) (a : Option Addr) : ReadsI w a [] := by intro i hi; simp at hi
theorem ne_nil {α : Type} {l : List α} {i : Nat} (h : i < l.length) : l ≠ [] := by rintro rfl; simp at h
theorem readsI_only {F : Nat → Prop} {w w' : World} {a : Option Addr} {l : List Int} (h : ReadsI w a l) (ho : Only F w w') (hn : ∀ b, a = some b → l ≠ [] → ¬ F b.block) : ReadsI w' a l := by
  intro i hi
  obtain ⟨b, off, h1, h2⟩ := h i hi
  exact ⟨b, off, h1, (ho.cell (World.block_lt_of_cell? w _ h2) (show ¬ F b from hn _ h1 (ne_nil hi))).trans h2⟩
theorem readsI_lt {w : World} {a : Option Addr} {l : List Int} (h : ReadsI w a l) : ∀ b, a = some b → l ≠ [] → b.block < w.heap.size := by
  intro b hb hl
  obtain ⟨c, off, h1, h2⟩ := h 0 (List.length_pos_iff.2 hl)
  have := World.block_lt_of_cell? w _ h2
  rw [hb] at h1
  cases h1
  exact this
theorem readsI_below {w w' : World} {a : Option Addr} {l : List Int} (h : ReadsI w a l) (hb : Below w.heap.size w w') : ReadsI w' a l :=
  readsI_only h (Only.of_below hb) fun b e hl => by have := readsI_lt h b e hl; omega

set_option maxRecDepth 100000 in
set_option maxHeartbeats 3200000 in
theorem crash_any {w : World} {S : Nat → Prop} {p gn gk cn ck cap : Nat} {la : Option Addr} {d : Dk.D} (h : DiskIn w S p gn gk cn ck la cap d) (fa : Option Addr) (F : List Int) (fc : Nat) (hF : ReadsI w fa F) (hfa : ∀ a, fa = some a → F ≠ [] → ¬ S a.block) :
    Calls Try.prog 16 #[.pointer (some ⟨p, 0, none⟩), .slice fa F.length fc] w fun e w' => e = .returned (.int .i64 0) ∧ DiskNext w' (fun k => S k ∨ w.heap.size ≤ k) p (Dk.crash d F) la ∧ Only S w w' := by
  have cn0 := none_any h.head h.ok
  have cl := head_loose h.head
  have HH := Lib.hid (And.intro h (And.intro hF (And.intro hfa cn0))); clear h hF hfa cn0
  go_enter Try.func16, Try.ntmps16
  go_wp2_with fail
  refine HH.out.2.2.2.mono ?_
  rintro e w0 ⟨rfl, hw0⟩
  obtain rfl := hw0.symm
  clear hw0
  go_wp2_with fail
  go_loopw [5, 6, 7, 15] (fun _ _ _ i wr => ∃ k : Nat, k ≤ d.W.length ∧ i = .int .i64 (k : Int) ∧ Hid (BlocksAt wr gk ck (Dk.crashK d.B d.W F k)) ∧ Hid (Only (fun x => x = gk) w wr))
    (fun _ _ _ i _ => d.W.length - (intOf i).toNat)
  case atStart => exact ⟨0, by omega, rfl, Lib.hid HH.out.1.kept, Lib.hid (Only.refl _ _)⟩
  case round =>
    obtain ⟨k, hk, rfl, HR, HO⟩ := hrel
    by_cases hlt : k < d.W.length
    · obtain ⟨hin, hF, hfa, _⟩ := HH.out
      obtain ⟨g, r, rfl, hg, hcap, hmax, g1, g2, g3, hown⟩ : ∃ g r, la = some ⟨g, 0, none⟩ ∧ RowV w g 69 (d.W.flatMap wv ++ r) ∧ d.W.length ≤ cap ∧ cap ≤ maxLen ∧ g ≠ p ∧ g ≠ gn ∧ g ≠ gk ∧ (d.W.length < cap → S g ∧ d.W.length * 513 + r.length = cap * 513) := by
        rcases hin.loose with ⟨_, _, h⟩ | h
        · rw [h] at hlt; simp at hlt
        · exact h
      have hm := hin.ok.loose _ (Dk.getD_mem d.W k (0, ByteArray.empty) hlt)
      have hr2 := rowV_only hg HO.out (fun e => g3 e)
      have hh2 : HeadAt wr p gn gk cn ck (some ⟨g, 0, none⟩) cap d := rowV_only hin.head HO.out (fun e => hin.pk e.symm)
      have cl2 := head_loose hh2
      have c1 := head_kept hh2
      obtain ⟨ca, rd⟩ := loose_at hr2 (fun x hx => (hin.ok.loose x hx).2) k hlt
      have zK := Dk.crashK_ok F hin.ok.size hin.ok.loose k hk
      have hat : (d.W.getD k (0, ByteArray.empty)).1 < (Dk.crashK d.B d.W F k).length := by rw [Dk.crashK_len]; exact hm.1
      have r1 := blocks_range HR.out zK _ hat
      have t1 := blocks_there HR.out zK _ hat
      have s1 := Dk.blk_size zK _ hat
      have hf : ∃ f : Int, F.getD k 0 = f ∧ (k < F.length → ∃ b off, fa = some ⟨b, off, none⟩ ∧ wr.cell? ⟨b, off + k, none⟩ = some (.int .i64 f)) ∧ (¬ k < F.length → f = 0) := by
        refine ⟨_, rfl, fun hkF => ?_, fun hkF => by rw [List.getD_eq_getElem?_getD, List.getElem?_eq_none (by omega)]; rfl⟩
        obtain ⟨b, off, e1, e2⟩ := hF k hkF
        refine ⟨b, off, e1, ?_⟩
        rw [HO.out.cell (p := ⟨b, off + k, none⟩) (World.block_lt_of_cell? w _ e2) (fun e => hfa _ e1 (ne_nil hkF) (by rw [show b = gk from e]; exact hin.sk)), e2, List.getD_eq_getElem?_getD, List.getElem?_eq_getElem hkF]
        rfl
      obtain ⟨f, hfk, hfc, hf0⟩ := hf
      have hset : ∀ w', BlocksAt w' gk ck (Dk.crashK d.B d.W F k) → BlocksAt (w'.setCells gk ((d.W.getD k (0, ByteArray.empty)).1 * 512) (bv (Dk.falls f (Dk.blk (Dk.crashK d.B d.W F k) (d.W.getD k (0, ByteArray.empty)).1) (d.W.getD k (0, ByteArray.empty)).2))) gk ck (Dk.crashK d.B d.W F (k + 1)) := fun w' hw' => by
        rw [Dk.crashK, hfk]
        exact blocks_set hw' zK _ hat _ (Dk.falls_size _ _ _ s1 hm.2)
      have zf := Dk.falls_size f _ _ s1 hm.2
      have hWm : d.W.length ≤ maxLen := Nat.le_trans hcap hmax
      unfold maxLen at hWm
      have atB : (d.W.getD k (0, ByteArray.empty)).1 < d.B.length := hm.1
      have s2 := hm.2
      have hmost := hin.ok.most
      have HX := Lib.hid (And.intro hset (And.intro s1 (And.intro s2 (And.intro zf (And.intro rd (And.intro hh2 (And.intro hr2 (And.intro g3 hin.pk))))))))
      clear hset s1 s2 zf rd hh2 hr2 g1 g2 g3 hown hm hg zK hat hin hF hfa hfk hcap hmax
      have HX2 := Lib.hid t1
      have HX3 := Lib.hid r1
      clear t1 r1
      obtain ⟨CK2, hCK⟩ : ∃ A, Dk.crashK d.B d.W F (k + 1) = A := ⟨_, rfl⟩
      have HCK := Lib.hid hCK
      rw [hCK] at HX
      clear hCK
      generalize Dk.blk (Dk.crashK d.B d.W F k) (d.W.getD k (0, ByteArray.empty)).1 = X at *
      generalize Dk.crashK d.B d.W F k = CK at *
      generalize (d.W.getD k (0, ByteArray.empty)).1 = at_ at *
      generalize (d.W.getD k (0, ByteArray.empty)).2 = sd at *
      have HC : Hid ((∀ wx, Below wr.heap.size wr wx → wx.rangeAt gk (at_ * 512) (bv X)) ∧ (∀ wx, (wx.cell? ⟨p, 1, none⟩ = some (.slice (some ⟨gk, 0, none⟩) d.B.length ck) ∧ wx.cell? ⟨g, k * 513, none⟩ = some (.int .i64 (at_ : Int)) ∧ Hid (Below wr.heap.size wr wx)) → Calls Try.prog 33 #[.pointer (some ⟨g, k * 513, none⟩), .agg (bv X).toArray, .int .i64 f] wx fun e w' => e = .returned (.agg (bv (Dk.falls f X sd)).toArray) ∧ (w'.cell? ⟨p, 1, none⟩ = some (.slice (some ⟨gk, 0, none⟩) d.B.length ck) ∧ w'.cell? ⟨g, k * 513, none⟩ = some (.int .i64 (at_ : Int)) ∧ Hid (Below wr.heap.size wr w')))) := Lib.hid ⟨fun wx hb j v hv => by
          have e := HX3.out j v hv
          rw [hb.cell (p := ⟨gk, at_ * 512 + j, none⟩) (World.block_lt_of_cell? wr _ e)]; exact e, fun wx hSx => (falls_any wx g (k * 513) X sd f HX.out.2.1 HX.out.2.2.1 (fun j v hv => by
            have e := HX.out.2.2.2.2.1 j v hv
            rw [hSx.2.2.out.cell (p := ⟨g, k * 513 + 1 + j, none⟩) (World.block_lt_of_cell? wr _ e)]; exact e)).mono fun e w' hh => by
          have hb := hSx.2.2.out.trans (hh.2.mono hSx.2.2.out.size)
          exact ⟨hh.1, (hb.cell (p := ⟨p, 1, none⟩) (World.block_lt_of_cell? wr _ c1)).trans c1, (hb.cell (p := ⟨g, k * 513, none⟩) (World.block_lt_of_cell? wr _ ca)).trans ca, Lib.hid hb⟩⟩
      by_cases hkF : k < F.length
      · obtain ⟨b, off, rfl, hfcell⟩ := hfc hkF
        clear hfc hf0
        go_wp2_with fail
        clear hfcell
        refine wp_region_quiet_tail (C := fun w' => w'.cell? ⟨p, 1, none⟩ = some (.slice (some ⟨gk, 0, none⟩) d.B.length ck) ∧ w'.cell? ⟨g, k * 513, none⟩ = some (.int .i64 (at_ : Int)) ∧ Hid (Below wr.heap.size wr w')) 22 (by kernel_rfl) (by kernel_rfl) ⟨c1, ca, Lib.hid ((Below.refl _ wr).drew)⟩ ?_
        simp only [List.take_succ_cons, List.take_zero, List.drop_succ_cons, List.drop_zero]
        iterate 18
          refine wpQuiet_read ?_
          apply Exists.intro
          refine ⟨⟨by rfl, fun wx hSx => ?_⟩, ?_⟩
          · go_simp
            with_reducible rfl
          simp only [Act.put, List.setIfInBounds_toArray, List.set_cons_zero, List.set_cons_succ]
        refine wpQuiet_load_rows rfl _ _ rfl gk (at_ * 512) rfl (bv X).toArray (fun wx hSx => run_loadVar_mid wx gk (at_ * 512) _ (bv X) _ (HC.out.1 wx hSx.2.2.out) block_under rfl (block_size X HX.out.2.1)) ?_
        simp only [Act.put, List.setIfInBounds_toArray, List.set_cons_zero, List.set_cons_succ]
        refine wpQuiet_read ?_
        apply Exists.intro
        refine ⟨⟨by rfl, fun wx hSx => ?_⟩, ?_⟩
        · go_simp
          with_reducible rfl
        simp only [Act.put, List.setIfInBounds_toArray, List.set_cons_zero, List.set_cons_succ]
        refine wpQuiet_call rfl 33 #[.pointer (some ⟨g, k * 513, none⟩), .agg (bv X).toArray, .int .i64 f] (.agg (bv (Dk.falls f X sd)).toArray) (fun wx hSx => by go_simp) (fun wx hSx => HC.out.2 wx hSx) ?_
        simp only [Act.put, List.setIfInBounds_toArray, List.set_cons_zero, List.set_cons_succ]
        refine wpQuiet_read ?_
        apply Exists.intro
        refine ⟨⟨by rfl, fun wx hSx => ?_⟩, ?_⟩
        · go_simp
          with_reducible rfl
        simp only [Act.put, List.setIfInBounds_toArray, List.set_cons_zero, List.set_cons_succ]
        refine wpQuiet_nil ?_
        rintro w4 ⟨_, _, hb4⟩
        have HE : Hid (BlocksAt (w4.setCells gk (at_ * 512) (bv (Dk.falls f X sd)).toArray.toList) gk ck CK2 ∧ Only (fun x => x = gk) w (w4.setCells gk (at_ * 512) (bv (Dk.falls f X sd)).toArray.toList)) := Lib.hid ⟨HX.out.1 w4 (blocksAt_only HR.out (Only.of_none (F := fun _ => False) hb4.out) (fun h => h)), (HO.out.more (Only.of_none hb4.out)).setCells (fun _ => rfl) _ _⟩
        have t4 : w4.there gk (at_ * 512) (bv (Dk.falls f X sd)).toArray.size := by
          rw [List.size_toArray, bv_len, HX.out.2.2.2.1]
          intro j hj
          obtain ⟨u1, u2⟩ := HX2.out j hj
          obtain ⟨u, hu⟩ := Option.isSome_iff_exists.1 u1
          have hlt := World.block_lt_of_cell? wr _ hu
          exact ⟨by rw [hb4.out.cell hlt]; exact u1, by rw [hb4.out.frozen hlt]; exact u2⟩
        clear hb4
        go_wp2_with (refine wpList_store_mid rfl _ _ _ rfl gk (at_ * 512) (bv (Dk.falls f X sd)).toArray rfl rfl t4 (by rw [List.size_toArray]; exact block_size _ HX.out.2.2.2.1) (all_oneCell_toArray (bv_one _)) ?_)
        go_roundw
        case rel => exact ⟨k + 1, by omega, by go_num, Lib.hid (by rw [HCK.out]; exact HE.out.1), Lib.hid HE.out.2⟩
        case measure => simp [intOf]; omega
      · obtain rfl := hf0 hkF
        clear hfc hf0
        go_wp2_with fail
        refine wp_region_quiet_tail (C := fun w' => w'.cell? ⟨p, 1, none⟩ = some (.slice (some ⟨gk, 0, none⟩) d.B.length ck) ∧ w'.cell? ⟨g, k * 513, none⟩ = some (.int .i64 (at_ : Int)) ∧ Hid (Below wr.heap.size wr w')) 22 (by kernel_rfl) (by kernel_rfl) ⟨c1, ca, Lib.hid ((Below.refl _ wr).drew)⟩ ?_
        simp only [List.take_succ_cons, List.take_zero, List.drop_succ_cons, List.drop_zero]
        iterate 18
          refine wpQuiet_read ?_
          apply Exists.intro
          refine ⟨⟨by rfl, fun wx hSx => ?_⟩, ?_⟩
          · go_simp
            with_reducible rfl
          simp only [Act.put, List.setIfInBounds_toArray, List.set_cons_zero, List.set_cons_succ]
        refine wpQuiet_load_rows rfl _ _ rfl gk (at_ * 512) rfl (bv X).toArray (fun wx hSx => run_loadVar_mid wx gk (at_ * 512) _ (bv X) _ (HC.out.1 wx hSx.2.2.out) block_under rfl (block_size X HX.out.2.1)) ?_
        simp only [Act.put, List.setIfInBounds_toArray, List.set_cons_zero, List.set_cons_succ]
        refine wpQuiet_read ?_
        apply Exists.intro
        refine ⟨⟨by rfl, fun wx hSx => ?_⟩, ?_⟩
        · go_simp
          with_reducible rfl
        simp only [Act.put, List.setIfInBounds_toArray, List.set_cons_zero, List.set_cons_succ]
        refine wpQuiet_call rfl 33 #[.pointer (some ⟨g, k * 513, none⟩), .agg (bv X).toArray, .int .i64 0] (.agg (bv (Dk.falls 0 X sd)).toArray) (fun wx hSx => by go_simp) (fun wx hSx => HC.out.2 wx hSx) ?_
        simp only [Act.put, List.setIfInBounds_toArray, List.set_cons_zero, List.set_cons_succ]
        refine wpQuiet_read ?_
        apply Exists.intro
        refine ⟨⟨by rfl, fun wx hSx => ?_⟩, ?_⟩
        · go_simp
          with_reducible rfl
        simp only [Act.put, List.setIfInBounds_toArray, List.set_cons_zero, List.set_cons_succ]
        refine wpQuiet_nil ?_
        rintro w4 ⟨_, _, hb4⟩
        have HE : Hid (BlocksAt (w4.setCells gk (at_ * 512) (bv (Dk.falls 0 X sd)).toArray.toList) gk ck CK2 ∧ Only (fun x => x = gk) w (w4.setCells gk (at_ * 512) (bv (Dk.falls 0 X sd)).toArray.toList)) := Lib.hid ⟨HX.out.1 w4 (blocksAt_only HR.out (Only.of_none (F := fun _ => False) hb4.out) (fun h => h)), (HO.out.more (Only.of_none hb4.out)).setCells (fun _ => rfl) _ _⟩
        have t4 : w4.there gk (at_ * 512) (bv (Dk.falls 0 X sd)).toArray.size := by
          rw [List.size_toArray, bv_len, HX.out.2.2.2.1]
          intro j hj
          obtain ⟨u1, u2⟩ := HX2.out j hj
          obtain ⟨u, hu⟩ := Option.isSome_iff_exists.1 u1
          have hlt := World.block_lt_of_cell? wr _ hu
          exact ⟨by rw [hb4.out.cell hlt]; exact u1, by rw [hb4.out.frozen hlt]; exact u2⟩
        clear hb4
        go_wp2_with (refine wpList_store_mid rfl _ _ _ rfl gk (at_ * 512) (bv (Dk.falls 0 X sd)).toArray rfl rfl t4 (by rw [List.size_toArray]; exact block_size _ HX.out.2.2.2.1) (all_oneCell_toArray (bv_one _)) ?_)
        go_roundw
        case rel => exact ⟨k + 1, by omega, by go_num, Lib.hid (by rw [HCK.out]; exact HE.out.1), Lib.hid HE.out.2⟩
        case measure => simp [intOf]; omega
    · obtain rfl : k = d.W.length := by omega
      have hin := HH.out.1
      have hh2 : HeadAt wr p gn gk cn ck la cap d := rowV_only hin.head HO.out (fun e => hin.pk e.symm)
      have c0 := head_now hh2
      have c1 := head_kept hh2
      have hlo : ∀ a, la = some a → a.block ≠ p ∧ a.block ≠ gn ∧ a.block ≠ gk := by
        rintro a rfl
        rcases hin.loose with ⟨h1, _⟩ | ⟨g, r, h1, _, _, _, h5, h6, h7, _⟩
        · cases h1
        · cases h1; exact ⟨h5, h6, h7⟩
      have hs := settle_any (w := wr.drew) (d := d) gn cn gk ck (Dk.over d.B d.W) (Dk.crashK d.B d.W F d.W.length) hin.ok hh2 (looseAt_only hin.loose HO.out.drew (fun a ha => (hlo a ha).2.2)) (blocksAt_only hin.now HO.out.drew (fun e => hin.nk e.symm)) HR.out (Dk.over_ok hin.ok.size hin.ok.loose) (Dk.crashK_ok F hin.ok.size hin.ok.loose _ (Nat.le_refl _))
        (Dk.over_len _ _) (Dk.crashK_len _ _ _ _) hin.pn (fun e => hin.nk e.symm) hin.pk (fun a ha => (hlo a ha).2.1)
      rw [Dk.settle_crash] at hs
      have HS := Lib.hid hs
      clear hs hlo hin hh2
      go_wp2_with fail
      go_still_tail 9, (by kernel_rfl)
      change wpList _ _ _ _ _ wr.drew
      clear c0 c1
      go_wp2_with fail
      refine HS.out.mono ?_
      rintro e w2 ⟨rfl, hh2, hn2, ho2⟩
      have f3 := rowV_frozen hh2 3
      have f4 := rowV_frozen hh2 4
      have c3 := head_left hh2
      have c4 := head_gone hh2
      have hst := rowV_stored (rowV_stored hh2 4 (.bool false)) 3 (.int .i64 (-1))
      have hp : Only (fun k => k = p) w2 ((w2.setCell ⟨p, 4, none⟩ (.bool false)).setCell ⟨p, 3, none⟩ (.int .i64 (-1))) := ((Only.refl (fun k => k = p) w2).setCell (g := p) (i := 4) (fun _ => rfl) _).setCell (g := p) (i := 3) (fun _ => rfl) _
      have H2 := Lib.hid (And.intro hst (And.intro hn2 (And.intro ho2.of_drew hp)))
      clear hst hn2 ho2 hp hh2 HS
      go_wp2_with fail
      go_ret
      obtain ⟨hst, hn2, ho2, hp⟩ := H2.out
      have hin := HH.out.1
      have hall : Only S w w2 := (HO.out.mono (G := S) fun k _ e => e ▸ hin.sk).trans (ho2.mono (G := S) fun k _ e => by rcases e with e | e; exact e ▸ hin.sp; exact e ▸ hin.sn) fun _ _ h => h
      refine ⟨rfl, ⟨gn, gk, cn, ck, none, 0, ⟨Dk.crash_ok hin.ok F, ?_, ?_, ?_, .inl ⟨rfl, rfl, rfl⟩, hin.pn, hin.pk, hin.nk, .inl hin.sp, .inl hin.sn, .inl hin.sk⟩, .inl rfl⟩, hall.trans (hp.mono (G := S) fun k _ e => e ▸ hin.sp) fun _ _ h => h⟩
      · unfold HeadAt Dk.crash
        rw [Dk.crashK_len]
        exact hst
      · exact blocksAt_only hn2 hp (fun e => hin.pn e)
      · exact blocksAt_only (blocksAt_only HR.out ho2 (fun e => by rcases e with e | e; exact hin.pk e; exact hin.nk e)) hp (fun e => hin.pk e)
end Go.Proofs.Ytjefmmbkkdaeiaa
