/-
  Layer 4: what the document's New does.
-/
import Derived.Test.YtjefmmbkkdaeiaaRefCrash
import Derived.Test.YtjefmmbkkdaeiaaHTail
import Derived.Test.YtjefmmbkkdaeiaaDskNew
import Derived.Test.YtjefmmbkkdaeiaaDskWrite
namespace Go.Proofs.Ytjefmmbkkdaeiaa
open Go.RowKit

theorem run_make_bytes (w : World) : (Instr.makeSlice 58 (.int .i64 512) (.int .i64 512)).run Try.prog w = .ok (.slice (some ⟨w.heap.size, 0, none⟩) 512 512) (w.alloc (.cells (bv Dk.zeros).toArray 5)) := by
  obtain ⟨i, hi, hi2⟩ := Option.map_eq_some_iff.1 info_byte
  simp only [Prod.mk.injEq] at hi2
  have hr := run_make (P := Try.prog) w 58 5 i _ Try.underlying58 hi hi2.1 .i64 .i64 512 512 (by omega) (Int.le_refl _) (by rw [hi2.2.2]; omega) (by omega)
  rw [hr, hi2.2.1]
  have e : madeCells (Value.int .u8 0).cells ((512 : Int).toNat * 1) = (bv Dk.zeros).toArray := by
    show madeCells #[Value.int .u8 0] 512 = _
    rw [bv_zeros]
    unfold madeCells
    apply Array.ext_getElem?
    intro j
    have e2 : (List.replicate 512 (Value.int .u8 0)).toArray[j]? = (List.replicate 512 (Value.int .u8 0))[j]? := List.getElem?_toArray ..
    rw [Array.getElem?_map, e2, List.getElem?_replicate, Array.getElem?_range]
    by_cases h : j < 512
    · rw [if_pos h, if_pos h, Option.map_some]
      have : j % (#[Value.int .u8 0] : Array Value).size = 0 := by show j % 1 = 0; omega
      rw [this]; rfl
    · rw [if_neg h, if_neg h, Option.map_none]
  show Result.ok _ (w.alloc (.cells (madeCells (Value.int .u8 0).cells ((512 : Int).toNat * 1)) _)) = _
  rw [e]; rfl
def lenAt (w : World) (p : Nat) : Nat := match w.cell? ⟨p, 0, none⟩ with
  | some (.slice _ l _) => l
  | _ => 0
theorem rep_len (k : Nat) : (List.replicate k Dk.zeros).length = k := List.length_replicate
theorem lenAt_eq {w : World} {p l c : Nat} {a : Option Addr} (h : w.cell? ⟨p, 0, none⟩ = some (.slice a l c)) : lenAt w p = l := by unfold lenAt; rw [h]
/-- what the document's New answers -/
def RNewPost (n : Int) (w : World) (e : Ending) (w' : World) : Prop :=
  (¬ (1 ≤ n ∧ n ≤ 4096) ∧ e = .returned (.tuple #[.pointer none, .int .i64 2]) ∧ w' = w) ∨
  (1 ≤ n ∧ n ≤ 4096 ∧ ∃ q, e = .returned (.tuple #[.pointer (some ⟨q, 0, none⟩), .int .i64 0]) ∧ RefAt w' (fun k => w.heap.size ≤ k) q (Dk.new n.toNat) ∧ Below w.heap.size w w')
/-- the disk while its blocks are laid -/
structure Half (w0 w : World) (q k : Nat) : Prop where
  head : ∃ lb cb, RHead w q cb 0 lb none (Dk.new k) ∧ ListAt sB 1 9 w (fun j => w0.heap.size ≤ j) (fun x => x = q) lb cb (List.replicate k Dk.zeros)
  below : Below w0.heap.size w0 w
  here : w0.heap.size ≤ q

set_option maxRecDepth 100000 in
set_option maxHeartbeats 1600000 in
theorem rnew_any (n : Int) (w : World) : Calls Try.prog 9 #[.int .i64 n] w fun e w' => RNewPost n w e w' := by
  by_cases h1 : n < 1
  · go_enter Try.func9, Try.ntmps9
    go_wp2_with fail
    go_ret2
    exact .inl ⟨by omega, rfl, rfl⟩
  · by_cases h2 : 4096 < n
    · go_enter Try.func9, Try.ntmps9
      go_wp2_with fail
      go_ret2
      exact .inl ⟨by omega, rfl, rfl⟩
    · obtain ⟨m, rfl⟩ : ∃ m : Nat, n = (m : Int) := ⟨n.toNat, by omega⟩
      go_enter Try.func9, Try.ntmps9
      go_wp2_with fail
      have hst : Half w (w.alloc (.cells #[.slice none 0 0, .slice none 0 0, .int .i64 (-1), .bool false] 39)) w.heap.size 0 :=
        ⟨⟨none, 0, rowV_new w _ [_, _, _, _], .inl ⟨rfl, rfl, rfl⟩⟩, (Below.refl _ w).alloc (Nat.le_refl _) _, Nat.le_refl _⟩
      have HST := Lib.hid hst
      clear hst
      go_loopw [13] (fun _ wr => ∃ k : Nat, k ≤ m ∧ Hid (Half w wr w.heap.size k)) (fun _ wr => m - lenAt wr w.heap.size)
      case atStart => exact ⟨0, by omega, HST.out⟩
      case round =>
        obtain ⟨k, hk, HK⟩ := hrel
        obtain ⟨⟨lb, cb, hh, hl⟩, hbel, hhere⟩ := HK.out
        have c0 := rhead_B hh
        have hlk : (Dk.new k).B.length = k := by show (List.replicate k Dk.zeros).length = k; rw [List.length_replicate]
        rw [hlk] at c0
        by_cases hlt : k < m
        · have hsz := hbel.size
          have lq := rowV_lt hh
          have hZ := rep_len k
          obtain ⟨il, hil, hil2⟩ := Option.map_eq_some_iff.1 info_str
          simp only [Prod.mk.injEq] at hil2
          have hoa : ∀ F : Nat → Prop, Only F wr (((wr.alloc (.cells (bv Dk.zeros).toArray 5)).alloc (.cells #[.string Dk.zeros] 9)).drew) := fun F => (((Only.refl F wr).alloc _).alloc _).drew
          have hNrow : RowV (((wr.alloc (.cells (bv Dk.zeros).toArray 5)).alloc (.cells #[.string Dk.zeros] 9)).drew) (wr.heap.size + 1) 9 (sB Dk.zeros) := by
            have h := rowV_new (wr.alloc (.cells (bv Dk.zeros).toArray 5)) 9 [.string Dk.zeros]
            rw [World.size_alloc] at h
            exact h
          have hap := append_list (P := Try.prog) (w := ((wr.alloc (.cells (bv Dk.zeros).toArray 5)).alloc (.cells #[.string Dk.zeros] 9)).drew) (W := List.replicate k Dk.zeros) 36 36 il _ 16 Try.underlying36 hil hil2.1 hil2.2.1 hil2.2.2 rfl (by omega)
            (listAt_only hl (hoa fun _ => False) (fun _ _ h => h)) (fun _ _ => rfl) Dk.zeros rfl (by intro v hv; simp only [sB, List.mem_singleton] at hv; rw [hv]; rfl) (wr.heap.size + 1) hNrow (by rw [hZ]; omega) (by rw [hZ]; omega) (by rw [hZ]; unfold maxLen; omega) (fun x hx => by rw [hx]; simp; omega)
          rw [hZ] at hap
          obtain ⟨la', cap', w5, hrun, hL5, ho5⟩ := hap
          have ho15 := (hoa (fun j => w.heap.size ≤ j ∧ ¬ j = w.heap.size)).more ho5
          have hh5 : RHead w5 w.heap.size cb 0 lb none (Dk.new k) := rowV_only hh ho15 (fun h => h.2 rfl)
          have f05 := rowV_frozen hh5 0
          have c05 := rhead_B hh5
          rw [hlk] at c05
          have hst := rowV_stored hh5 0 (.slice la' (k + 1) cap')
          have hbel5 : Below w.heap.size w w5 := hbel.trans (ho15.below (fun j _ h => h.1) hsz)
          have hsnoc : List.replicate k Dk.zeros ++ [Dk.zeros] = List.replicate (k + 1) Dk.zeros := by rw [List.replicate_succ']
          rw [hsnoc] at hL5
          have hhalf : Half w (w5.setCell ⟨w.heap.size, 0, none⟩ (.slice la' (k + 1) cap')) w.heap.size (k + 1) := by
            have hp : Only (fun j => j = w.heap.size) w5 (w5.setCell ⟨w.heap.size, 0, none⟩ (.slice la' (k + 1) cap')) := (Only.refl (fun j => j = w.heap.size) w5).setCell (g := w.heap.size) (i := 0) (fun _ => rfl) _
            have hm5 := listAt_mono (S' := fun j => w.heap.size ≤ j) (Av' := fun x => x = w.heap.size) hL5 (fun j _ h => h.elim id fun h => by simp at h; omega) (fun _ _ h => h)
            refine ⟨⟨la', cap', ?_, ?_⟩, hbel5.setCell (p := ⟨w.heap.size, 0, none⟩) (Nat.le_refl _) _, Nat.le_refl _⟩
            · have e : (Dk.new (k + 1)).B.length = k + 1 := rep_len (k + 1)
              unfold RHead
              rw [e]
              exact hst
            · refine listAt_only hm5 hp fun a ha => ?_
              obtain ⟨g, rfl, _, _, h3⟩ := listAt_block hm5 a ha
              exact h3
          have hS5 : w5.cell? ⟨w.heap.size, 0, none⟩ = some (.slice lb k cb) := c05
          have hS1 : ((wr.alloc (.cells (bv Dk.zeros).toArray 5)).drew).cell? ⟨w.heap.size, 0, none⟩ = some (.slice lb k cb) := by
            show (wr.alloc _).cell? _ = _
            rw [World.cell?_alloc_lt _ _ _ (show (⟨w.heap.size, 0, none⟩ : Addr).block < wr.heap.size from lq)]; exact c0
          have hS2 : (((wr.alloc (.cells (bv Dk.zeros).toArray 5)).alloc (.cells #[.string Dk.zeros] 9)).drew).cell? ⟨w.heap.size, 0, none⟩ = some (.slice lb k cb) := by
            show ((wr.alloc _).alloc _).cell? _ = _
            rw [World.cell?_alloc_lt _ _ _ (show (⟨w.heap.size, 0, none⟩ : Addr).block < (wr.alloc (.cells (bv Dk.zeros).toArray 5)).heap.size by simp; omega)]; exact hS1
          have hcv : (convert 58 9 (.slice (some ⟨wr.heap.size, 0, none⟩) 512 512)).run Try.prog ((wr.alloc (.cells (bv Dk.zeros).toArray 5)).drew) = .ok (.string Dk.zeros) ((wr.alloc (.cells (bv Dk.zeros).toArray 5)).drew) :=
            conv_block ((wr.alloc (.cells (bv Dk.zeros).toArray 5)).drew) wr.heap.size 0 512 Dk.zeros Dk.zeros_size (rowV_range (show RowV ((wr.alloc (.cells (bv Dk.zeros).toArray 5)).drew) wr.heap.size 5 (bv Dk.zeros) from rowV_new wr 5 (bv Dk.zeros)) 0 (bv Dk.zeros) (fun j _ => by rw [Nat.zero_add]))
          have hmk : (Instr.makeSlice 58 (.int .i64 512) (.int .i64 512)).run Try.prog wr.drew = .ok (.slice (some ⟨wr.heap.size, 0, none⟩) 512 512) ((wr.alloc (.cells (bv Dk.zeros).toArray 5)).drew) := run_make_bytes wr.drew
          have HF := Lib.hid (And.intro hhalf (And.intro hS5 (And.intro hS1 (And.intro hS2 hrun))))
          clear hhalf hS5 hS1 hS2 hrun hst hbel5 hL5 ho15 ho5 hh5 hoa hil hil2 hl hh HK hZ hsnoc hbel
          obtain ⟨ZZ, hZZ⟩ : ∃ ZZ, Dk.zeros = ZZ := ⟨_, rfl⟩
          rw [hZZ] at hcv hmk HF
          have HZ := Lib.hid hZZ
          clear hZZ
          go_wp2_with fail
          refine wp_region_held_tail (S := fun w' => w'.cell? ⟨w.heap.size, 0, none⟩ = some (.slice lb k cb)) 5 9 (by omega) (by kernel_rfl) (fun _ d _ _ _ h => by cases d <;> exact h) (by kernel_rfl) c0 ?_
          simp only [List.take_succ_cons, List.take_zero, List.drop_succ_cons, List.drop_zero]
          iterate 5
            refine wpYield_step ?_
            apply Exists.intro
            refine ⟨⟨by rfl, fun wx hSx => ?_⟩, ?_⟩
            · go_simp
              with_reducible rfl
            simp only [Act.put, List.setIfInBounds_toArray, List.set_cons_zero, List.set_cons_succ]
          refine wpKeep_step rfl rfl fun K hK => ?_
          go_simp
          refine hK _ _ HF.out.2.2.1 ?_
          refine wpKeep_step rfl rfl fun K hK => ?_
          go_simp
          refine hK _ _ HF.out.2.2.1 ?_
          refine wpKeep_step rfl rfl fun K hK => ?_
          go_simp
          refine hK _ _ HF.out.2.2.2.1 ?_
          refine wpKeep_step rfl rfl fun K hK => wp_run_append (.tmp 24) (.tmp 27) 36 rfl _ _ rfl rfl _ _ HF.out.2.2.2.2 (hK _ _ HF.out.2.1 ?_)
          show wpList _ _ _ _ _ w5
          simp only [Act.put, List.setIfInBounds_toArray]
          go_wp2_with fail
          go_roundw
          case rel => exact ⟨k + 1, by omega, Lib.hid HF.out.1⟩
          case measure =>
            obtain ⟨⟨lb2, cb2, hh2, _⟩, _, _⟩ := HF.out.1
            have e2 := rhead_B hh2
            have e3 : (Dk.new (k + 1)).B.length = k + 1 := rep_len (k + 1)
            rw [e3] at e2
            rw [lenAt_eq c0, lenAt_eq e2]
            omega
        · obtain rfl : k = m := by omega
          have hh2 := HK.out
          clear HK
          have HE := Lib.hid hh2
          clear hh2 hh hl hbel
          go_wp2_with fail
          go_ret2
          obtain ⟨⟨lb2, cb2, hh2, hl2⟩, hb2, _⟩ := HE.out
          refine .inr ⟨by omega, by omega, w.heap.size, rfl, ?_, hb2⟩
          rw [show ((k : Int)).toNat = k from by omega]
          exact ⟨cb2, 0, lb2, none, Dk.new_ok k (by omega) (by omega), hh2, hl2, .inl ⟨rfl, rfl, rfl⟩, Nat.le_refl _⟩
end Go.Proofs.Ytjefmmbkkdaeiaa
