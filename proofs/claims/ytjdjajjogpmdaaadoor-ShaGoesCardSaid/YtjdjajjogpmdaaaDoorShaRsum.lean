/-
  Layer 3: what the document's Sum answers.
-/
import Derived.Test.YtjdjajjogpmdaaaDoorShaBlock
import Derived.Test.YtjdjajjogpmdaaaDoorShaWhole
import Derived.Deep.AppendLies
import Derived.StillTailTactics
namespace Go.Proofs.YtjdjajjogpmdaaaDoor
open Go.RowKit

theorem fill_len (m : List UInt8) : (Sha.fill m).length = m.length + 9 + Sha.zeros m.length := by
  unfold Sha.fill; rw [List.length_append, List.length_append, List.length_append, len8_len]; simp; omega
theorem fill_whole (m : List UInt8) : (Sha.fill m).length % 64 = 0 := by rw [fill_len]; unfold Sha.zeros; omega
theorem part_drop (m : List UInt8) (k s : Nat) : ∀ r, Sha.part (m.drop k) s r = Sha.part m (k + s) r
  | 0 => rfl
  | r + 1 => by
    rw [Sha.part, Sha.part, part_drop m k s r]
    congr 2
    rw [List.getD_eq_getElem?_getD, List.getD_eq_getElem?_getD, List.getElem?_drop]
    congr 2; omega
theorem bl_drop (m : List UInt8) (q : Nat) : bl (m.drop (64 * q)) = Sha.blk m q := by
  unfold bl Sha.blk
  apply List.map_congr_left
  intro i _
  rw [part_drop]
theorem drop_at (m : List UInt8) (k j : Nat) (h : k + j < m.length) : (m.drop k).getD j 0 = m[k + j] := by
  rw [List.getD_eq_getElem?_getD, List.getElem?_drop, List.getElem?_eq_getElem h]; rfl
theorem out_take (H : List Nat) (k : Nat) (h : k < H.length) : Sha.out (H.take (k + 1)) = Sha.out (H.take k) ++ Sha.bytes4 (H.getD k 0) := by
  unfold Sha.out
  rw [List.take_succ_eq_append_getElem h, List.flatMap_append, List.getD_eq_getElem?_getD, List.getElem?_eq_getElem h]
  simp
theorem out_len4 (H : List Nat) : (Sha.out H).length = 4 * H.length := by
  unfold Sha.out
  induction H with
  | nil => rfl
  | cons x l ih => rw [List.flatMap_cons, List.length_append, ih]; simp [Sha.bytes4]; omega
theorem ownsB_four {w : World} {B E : Nat} {v : Value} {l : List UInt8} (x : Nat)
    (h : w.ownsRow B E 1 v (l.length + 4) ((l.map fun b => Value.int .u8 (b.toNat : Int)) ++ [.int .u8 ((x : Int) / 16777216 % 256), .int .u8 ((x : Int) / 65536 % 256), .int .u8 ((x : Int) / 256 % 256), .int .u8 ((x : Int) % 256)])) : OwnsB w B E v (l ++ Sha.bytes4 x) := by
  have e : ((l ++ Sha.bytes4 x).map fun b : UInt8 => Value.int .u8 (b.toNat : Int)) = (l.map fun b => Value.int .u8 (b.toNat : Int)) ++ [.int .u8 ((x : Int) / 16777216 % 256), .int .u8 ((x : Int) / 65536 % 256), .int .u8 ((x : Int) / 256 % 256), .int .u8 ((x : Int) % 256)] := by
    unfold Sha.bytes4
    rw [List.map_append]
    simp only [List.map_cons, List.map_nil]
    rw [ofNat_int, ofNat_int, ofNat_int, ofNat_int]
    congr 2
    simp
  unfold OwnsB
  rw [e, List.length_append]; exact h
theorem four_cells {k : IntKind} {a b c d : Int} : ∀ u ∈ [Value.int k a, Value.int k b, Value.int k c, Value.int k d], u.oneCell' = true := by intro u hu; simp at hu; rcases hu with rfl | rfl | rfl | rfl <;> rfl
theorem setRow_far (w : World) (g i : Nat) (c : Array Value) (h : i ≠ g) : (w.setRow g c).heap[i]? = w.heap[i]? := by
  simp only [World.setRow, Array.getElem?_modify]
  rw [if_neg (by omega)]
theorem keep_cell {w w' : World} {G k : Nat} {v : Option Value} (c : w.cell? ⟨G, k, none⟩ = v) (h : Below (G + 1) w w') : w'.cell? ⟨G, k, none⟩ = v ∧ Below (G + 1) w w' :=
  ⟨(h.cell (p := ⟨G, k, none⟩) (Nat.lt_succ_self G)).trans c, h⟩

set_option maxRecDepth 100000 in
set_option maxHeartbeats 800000 in
theorem rsum_any (s : ByteArray) (w : World) (hs : s.size ≤ 1099511627776) :
    Calls Tryd.prog 9 #[.string s] w fun e w' => e = .returned (.string ⟨(Sha.dig s.data.toList).toArray⟩) ∧ Below w.heap.size w w' := by
  obtain ⟨i0, hi, hz0, hz1, hz2⟩ := info_parts Tryd.info5
  go_enter Tryd.func9, Tryd.ntmps9
  go_wp2_with (refine wpList_store_row rfl 36 _ _ rfl w.heap.size #[.int .u32 1779033703, .int .u32 3144134277, .int .u32 1013904242, .int .u32 2773480762, .int .u32 1359893119, .int .u32 2600822924, .int .u32 528734635, .int .u32 1541459225] rfl rfl 36 (vals (List.replicate 8 0)).toArray (heap_alloc_new _ _) info8 rfl (eight_one _ _ _ _ _ _ _ _) ?_)
  generalize hw1 : World.setRow _ _ _ = w1
  have h1 : RowV w1 w.heap.size 36 (vals Sha.iv) := by rw [← hw1]; exact rowV_row (rowV_new w _ (vals (List.replicate 8 0))) (vals Sha.iv)
  have h2 : Below w.heap.size w w1 ∧ w1.heap.size = w.heap.size + 1 := by rw [← hw1]; exact ⟨below_setRow ((Below.refl _ w).alloc (Nat.le_refl _) _) (Nat.le_refl _) _, by simp [World.setRow]⟩
  have H1 := Lib.hid (And.intro h1 h2)
  clear hw1 h1 h2
  generalize hG : w.heap.size = G at *
  refine (whole_any s w1 hs).mono ?_
  rintro e w2 ⟨v, rfl, ho, hb⟩
  have hlm := fill_whole s.data.toList
  have hlz := fill_len s.data.toList
  have hz64 : Sha.zeros s.data.toList.length < 64 := by unfold Sha.zeros; omega
  have hdg : Sha.dig s.data.toList = Sha.out (Sha.hs (Sha.fill s.data.toList) ((Sha.fill s.data.toList).length / 64)) := rfl
  have hsl : s.data.toList.length = s.size := by simp
  generalize Sha.fill s.data.toList = M at *
  obtain ⟨g, cap, rfl, hBg, hg, hcl, hcm, hcell, _⟩ := ho
  have hlN : M.length < 1099511627776 + 73 := by omega
  obtain ⟨N, hN⟩ : ∃ N, M.length = N := ⟨_, rfl⟩
  rw [hN] at hlm hlN hcl
  have c2 : ∀ j, j < N → w2.cell? ⟨g, j, none⟩ = some (.int .u8 ((M.getD j 0).toNat : Int)) := fun j hj => by
    rw [hcell j (by omega), List.getD_eq_getElem?_getD, List.getElem?_eq_getElem (by omega)]; rfl
  rw [H1.out.2.2] at hb hBg
  have H2 := Lib.hid (And.intro (rowV_below H1.out.1 hb (by omega)) (And.intro (H1.out.2.1.trans (hb.mono (by omega))) (And.intro c2 (And.intro hBg (And.intro hg (And.intro hN (And.intro hdg hG)))))))
  have hcm2 : cap ≤ 9223372036854775807 := hcm
  rw [hN]
  clear hlz hz64 hdg hsl hcell hcm hBg hg c2 hb hN hG H1
  go_wp2_with fail
  go_loopw [5] (fun i wr => ∃ q : Nat, 64 * q ≤ N ∧ i = .int .i64 (64 * (q : Int)) ∧ Hid (RowV wr G 36 (vals (Sha.hs M q)) ∧ Below G w wr ∧ (∀ j, j < N → wr.cell? ⟨g, j, none⟩ = some (.int .u8 ((M.getD j 0).toNat : Int))) ∧ g < wr.heap.size))
    (fun i _ => N + 64 - (intOf i).toNat)
  case atStart => exact ⟨0, by omega, rfl, Lib.hid ⟨H2.out.1, H2.out.2.1, H2.out.2.2.1, H2.out.2.2.2.2.1⟩⟩
  case round =>
    obtain ⟨q, hq, rfl, HR⟩ := hrel
    by_cases hlt : 64 * q + 64 ≤ N
    · have i1 : (64 * (q : Int) + 64) ≤ (N : Int) := by omega
      have i2 : (0 : Int) ≤ 64 * (q : Int) := by omega
      have i3 : (64 * (q : Int) + 64) ≤ (cap : Int) := by omega
      have e1 : (64 * (q : Int)).toNat = 64 * q := by omega
      have e2 : (64 * (q : Int) + 64).toNat = 64 * q + 64 := by omega
      have e3 : (64 * (q : Int) + 64 - 64 * (q : Int)).toNat = 64 := by omega
      have hl := Sha.hs_len M q
      have hw := Sha.hs_ws M q
      have hnx : Sha.hs M (q + 1) = Sha.comp (Sha.hs M q) (bl (M.drop (64 * q))) := by rw [bl_drop]; rfl
      have hgw : g ≥ G + 1 := H2.out.2.2.2.1
      have hblk := fun (w4 : World) (hc4 : ∀ j, j < 64 → w4.cell? ⟨g, 64 * q + j, none⟩ = some (.int .u8 (((M.drop (64 * q)).getD j 0).toNat : Int))) => block_any (Sha.hs M q) (M.drop (64 * q)) g (64 * q) (cap - 64 * q) w4 hl hw hc4 (by omega)
      rw [← hnx] at hblk
      have HB := Lib.hid hblk
      clear hblk hnx hw
      obtain ⟨A0, A1, A2, A3, A4, A5, A6, A7, hA8⟩ : ∃ a b c d e f g h : Nat, Sha.hs M q = [a, b, c, d, e, f, g, h] := by
        generalize Sha.hs M q = Hq at hl
        match Hq, hl with
        | [a, b, c, d, e, f, g, h], _ => exact ⟨a, b, c, d, e, f, g, h, rfl⟩
      have cel : ∀ i, i < 8 → wr.cell? ⟨G, i, none⟩ = some (.int .u32 (([A0, A1, A2, A3, A4, A5, A6, A7] : List Nat).getD i 0 : Int)) := fun i hi => by
        rw [rowV_cell HR.out.1, hA8]; exact vals_at _ _ (by simpa using hi)
      have d0 : wr.cell? ⟨G, 0, none⟩ = some (.int .u32 (A0 : Int)) := cel 0 (by omega)
      have d1 : wr.cell? ⟨G, 1, none⟩ = some (.int .u32 (A1 : Int)) := cel 1 (by omega)
      have d2 : wr.cell? ⟨G, 2, none⟩ = some (.int .u32 (A2 : Int)) := cel 2 (by omega)
      have d3 : wr.cell? ⟨G, 3, none⟩ = some (.int .u32 (A3 : Int)) := cel 3 (by omega)
      have d4 : wr.cell? ⟨G, 4, none⟩ = some (.int .u32 (A4 : Int)) := cel 4 (by omega)
      have d5 : wr.cell? ⟨G, 5, none⟩ = some (.int .u32 (A5 : Int)) := cel 5 (by omega)
      have d6 : wr.cell? ⟨G, 6, none⟩ = some (.int .u32 (A6 : Int)) := cel 6 (by omega)
      have d7 : wr.cell? ⟨G, 7, none⟩ = some (.int .u32 (A7 : Int)) := cel 7 (by omega)
      rw [hA8] at HB
      have HA8 := Lib.hid hA8
      clear cel hA8 hl
      go_wp2_with fail
      have v1 : IntKind.i64.wrap (64 * (q : Int) + 64) = 64 * (q : Int) + 64 := IntWalk.i64_in _ (by omega)
      have i4 : (64 * (q : Int)) ≤ 64 * (q : Int) + 64 := by omega
      have i5 : (0 : Int) ≤ 64 * (q : Int) + 64 := by omega
      have i6 : ¬ cap = 64 * q := by omega
      go_still_tail 6, (by kernel_rfl)
      change wpList _ _ _ _ _ wr.drew
      clear d0 d1 d2 d3 d4 d5 d6 d7 v1 i4 i5
      go_wp2_with fail
      refine (HB.out wr.drew (fun j hj => by
        show wr.cell? _ = _
        rw [HR.out.2.2.1 (64 * q + j) (by omega), drop_at M (64 * q) j (by have := H2.out.2.2.2.2.2.1; omega), List.getD_eq_getElem?_getD, List.getElem?_eq_getElem (by have := H2.out.2.2.2.2.2.1; omega)]
        rfl)).mono ?_
      rintro e w5 ⟨rfl, hb5⟩
      have hgG : G < wr.heap.size := rowV_lt HR.out.1
      replace hb5 : Below wr.heap.size wr w5 := ((Below.refl wr.heap.size wr).drew).trans hb5
      have r5 : RowV w5 G 36 (vals (Sha.hs M q)) := rowV_below HR.out.1 hb5 hgG
      have H5 := Lib.hid (And.intro r5 (And.intro (HR.out.2.1.trans (hb5.mono (Nat.le_of_lt hgG))) (And.intro (fun j hj => (hb5.cell (p := ⟨g, j, none⟩) HR.out.2.2.2).trans (HR.out.2.2.1 j hj)) (Nat.lt_of_lt_of_le HR.out.2.2.2 hb5.size))))
      have hz5 := vals_size (Sha.hs M (q + 1)) 8 (Sha.hs_len _ _)
      have hz6 := vals_size (Sha.hs M q) 8 (Sha.hs_len _ _)
      have ho5 := vals_one (Sha.hs M (q + 1))
      have HZ := Lib.hid (And.intro hz5 (And.intro hz6 ho5))
      clear hz5 hz6 ho5 r5 hb5 hgG HB HA8
      go_wp2_with (refine wpList_store_row rfl 36 _ _ rfl G (vals (Sha.hs M (q + 1))).toArray rfl rfl 36 (vals (Sha.hs M q)).toArray H5.out.1 (by rw [HZ.out.1]; exact info8) (by rw [HZ.out.1, HZ.out.2.1]) HZ.out.2.2 ?_)
      have HF := Lib.hid (And.intro (rowV_row H5.out.1 (vals (Sha.hs M (q + 1)))) (And.intro (below_setRow H5.out.2.1 (Nat.le_refl G) (vals (Sha.hs M (q + 1))).toArray) (And.intro (fun j hj => (World.cell?_of_block (w := w5) (a := ⟨g, j, none⟩) (setRow_far w5 G g (vals (Sha.hs M (q + 1))).toArray (by have := H2.out.2.2.2.1; omega))).trans (H5.out.2.2.1 j hj)) (show g < (w5.setRow G (vals (Sha.hs M (q + 1))).toArray).heap.size by simp [World.setRow]; exact H5.out.2.2.2))))
      clear HZ
      go_roundw
      case rel => exact ⟨q + 1, by omega, by go_num, HF⟩
      case measure => simp [intOf]; omega
    · have hqe : q = N / 64 := by omega
      have hD : Sha.dig s.data.toList = Sha.out (Sha.hs M q) := by rw [H2.out.2.2.2.2.2.2.1, H2.out.2.2.2.2.2.1, hqe]
      have HD := Lib.hid (And.intro hD (And.intro (Sha.hs_len M q) (And.intro HR.out.1 (And.intro HR.out.2.1 H2.out.2.2.2.2.2.2.2))))
      clear hD hqe
      generalize Sha.hs M q = R at HD
      have hgl := rowV_lt HD.out.2.2.1
      have HI := Lib.hid (And.intro hi (And.intro hz0 (And.intro hz1 hz2)))
      clear hcl hlm hcm2 H2 HR hi hz0 hz1 hz2
      go_wp2_with fail
      generalize wr = wq at *
      go_loopw [6, 7] (fun v i wr => ∃ k : Nat, k ≤ 8 ∧ i = .int .i64 (k : Int) ∧ OwnsB wr (G + 1) 5 v (Sha.out (R.take k)) ∧ Below (G + 1) wq wr)
        (fun _ i _ => 8 - (intOf i).toNat)
      case atStart => exact ⟨0, by omega, rfl, ownsB_nil _ _ _, Below.refl _ _⟩
      case round =>
        obtain ⟨k, hk, rfl, hown, hb⟩ := hrel
        have hsz : G + 1 ≤ wr.heap.size := by have := hb.size; omega
        by_cases hlt8 : k < 8
        · have cx : wr.cell? ⟨G, k, none⟩ = some (.int .u32 (R.getD k 0 : Int)) := by
            rw [hb.cell (p := ⟨G, k, none⟩) (Nat.lt_succ_self G), rowV_cell HD.out.2.2.1]; exact vals_at _ _ (by rw [HD.out.2.1]; exact hlt8)
          have HS := Lib.hid (out_take R k (by rw [HD.out.2.1]; exact hlt8))
          have hlen : (Sha.out (R.take k)).length = 4 * k := by rw [out_len4, List.length_take, HD.out.2.1]; omega
          have HL := Lib.hid hlen
          clear hlen
          generalize R.getD k 0 = x at *
          have k8 : (k : Int) < 8 := by omega
          have k0 : (0 : Int) ≤ (k : Int) := by omega
          go_wp2_with fail
          go_region_held3 (fun w' => w'.cell? ⟨G, k, none⟩ = some (.int .u32 (x : Int)) ∧ Below (G + 1) wr w')
            (first
              | exact keep_cell cx (Below.refl _ _).drew
              | exact keep_cell cx ((Below.refl _ _).alloc hsz _).drew
              | exact keep_cell cx (below_grown (wr := wr.drew) (below_drewN (Below.refl _ _) 1) hsz hown hgrow))
            (first
              | (refine step_append_lies _ (by rfl) _ _ _ (by rfl) (G + 1) 5 i0 (.int .u8 0) 1 1 Tryd.underlying45 HI.out.1 HI.out.2.1 HI.out.2.2.1 HI.out.2.2.2 rfl (by omega) u6 _ _ (by rfl) ((ownsB_row0 hown _).drew)
                  ⟨wr.heap.size, 0, none⟩ 4 4 [_, _, _, _] (by rfl) (by rfl) (World.news_of_block (cs := #[_, _, _, _]) (t := 5) (fr := (0, 0)) (heap_alloc_new wr _)) four_cells
                  (by omega) (by rw [HL.out]; unfold maxLen; omega) (by rw [HL.out]; omega) (by simp; omega) (wr.heap.size + 1) (by simp) ?_; intro gg cap w1 hown1 hgrow hat hlt1))
          all_goals
            simp only [IntKind.wrap_u8] at hown1
            have ho := ownsB_four x hown1
            rw [← HS.out] at ho
            have hb1 : Below (G + 1) wq w1 := hb.trans (below_grown (wr := wr.drew) (below_drewN (Below.refl _ _) 1) hsz hown hgrow)
            have HF := Lib.hid (And.intro ho hb1)
            clear ho hb1 hown1 hgrow hat hlt1 hown hb cx
            go_wp2_with fail
            go_roundw
            case rel => exact ⟨k + 1, by omega, by go_num, HF.out.1, HF.out.2⟩
            case measure => simp [intOf]; omega
        · obtain rfl : k = 8 := by omega
          rw [List.take_of_length_le (by rw [HD.out.2.1]; omega)] at hown
          have hconv := ownsB_conv (P := Tryd.prog) (src := 45) (dst := 9) hown Tryd.underlying45 Tryd.underlying5 Tryd.underlying9
          have HF := Lib.hid (HD.out.2.2.2.1.trans (hb.mono (Nat.le_succ G)))
          clear hown hb
          go_wp2_with fail
          go_ret
          exact ⟨ret_str (by rw [HD.out.1]), by rw [HD.out.2.2.2.2]; exact HF.out⟩
end Go.Proofs.YtjdjajjogpmdaaaDoor
