/-
  Layer 3: what the document's block answers.
-/
import Derived.Test.YtjdjajjogpmdaaaDoorShaWords
import Derived.Test.YtjdjajjogpmdaaaDoorShaStir
import Derived.Sort.AtCall
namespace Go.Proofs.YtjdjajjogpmdaaaDoor
open Go.RowKit

theorem info8 : (Tryd.prog.info? 36).map (·.size) = some 8 := by kernel_rfl

theorem turnq6 (x : Nat) (w : World) (n : Nat) (hx : x < 4294967296) : Calls Tryd.prog 26 #[.int .u32 (x : Int), .int .i64 6] (w.drewN n) fun e w'' => e = .returned (.int .u32 (Sha.rot 6 x : Int)) ∧ ∃ m, w'' = w.drewN m := Calls.quiet_of (turn_any x 6 _ hx (by omega))
theorem turnq11 (x : Nat) (w : World) (n : Nat) (hx : x < 4294967296) : Calls Tryd.prog 26 #[.int .u32 (x : Int), .int .i64 11] (w.drewN n) fun e w'' => e = .returned (.int .u32 (Sha.rot 11 x : Int)) ∧ ∃ m, w'' = w.drewN m := Calls.quiet_of (turn_any x 11 _ hx (by omega))
theorem turnq25 (x : Nat) (w : World) (n : Nat) (hx : x < 4294967296) : Calls Tryd.prog 26 #[.int .u32 (x : Int), .int .i64 25] (w.drewN n) fun e w'' => e = .returned (.int .u32 (Sha.rot 25 x : Int)) ∧ ∃ m, w'' = w.drewN m := Calls.quiet_of (turn_any x 25 _ hx (by omega))
theorem turnq2 (x : Nat) (w : World) (n : Nat) (hx : x < 4294967296) : Calls Tryd.prog 26 #[.int .u32 (x : Int), .int .i64 2] (w.drewN n) fun e w'' => e = .returned (.int .u32 (Sha.rot 2 x : Int)) ∧ ∃ m, w'' = w.drewN m := Calls.quiet_of (turn_any x 2 _ hx (by omega))
theorem turnq13 (x : Nat) (w : World) (n : Nat) (hx : x < 4294967296) : Calls Tryd.prog 26 #[.int .u32 (x : Int), .int .i64 13] (w.drewN n) fun e w'' => e = .returned (.int .u32 (Sha.rot 13 x : Int)) ∧ ∃ m, w'' = w.drewN m := Calls.quiet_of (turn_any x 13 _ hx (by omega))
theorem turnq22 (x : Nat) (w : World) (n : Nat) (hx : x < 4294967296) : Calls Tryd.prog 26 #[.int .u32 (x : Int), .int .i64 22] (w.drewN n) fun e w'' => e = .returned (.int .u32 (Sha.rot 22 x : Int)) ∧ ∃ m, w'' = w.drewN m := Calls.quiet_of (turn_any x 22 _ hx (by omega))
theorem vals_size (L : List Nat) (n : Nat) (h : L.length = n) : (vals L).toArray.size = n := by rw [List.size_toArray, vals_len, h]
theorem eight_one (a b c d e f g h : Int) : (#[.int .u32 a, .int .u32 b, .int .u32 c, .int .u32 d, .int .u32 e, .int .u32 f, .int .u32 g, .int .u32 h] : Array Value).all (·.oneCell') = true := by
  rw [Array.all_eq_true_iff_forall_mem]
  intro x hx
  simp at hx
  rcases hx with rfl | rfl | rfl | rfl | rfl | rfl | rfl | rfl <;> rfl
theorem vals_one (L : List Nat) : (vals L).toArray.all (·.oneCell') = true := by
  rw [Array.all_eq_true_iff_forall_mem]
  intro x hx
  rw [List.mem_toArray] at hx
  obtain ⟨y, _, rfl⟩ := List.mem_map.1 hx; rfl

set_option maxRecDepth 100000 in
set_option maxHeartbeats 800000 in
theorem block_any (H : List Nat) (p : List UInt8) (g o c : Nat) (w : World) (hH : H.length = 8) (hV : Sha.Ws H) (hc : ∀ j, j < 64 → w.cell? ⟨g, o + j, none⟩ = some (.int .u8 ((p.getD j 0).toNat : Int))) (_hcap : 64 ≤ c) :
    Calls Tryd.prog 22 #[.agg (vals H).toArray, .slice (some ⟨g, o, none⟩) 64 c] w fun e w' => e = .returned (.agg (vals (Sha.comp H (bl p))).toArray) ∧ Below w.heap.size w w' := by
  have hgl : g < w.heap.size := World.block_lt_of_cell? w _ (hc 0 (by omega))
  have hL := Sha.sched_len (bl p) (bl_len p)
  have hW : Sha.Ws (Sha.sched (bl p)) := Sha.more_ws _ _ (bl_ws p)
  have hcomp : Sha.comp H (bl p) = Sha.addL H (Sha.rnds (Sha.sched (bl p)) 64 H) := rfl
  rw [hcomp]
  have HWd := fun (w2 : World) (hb : Below w.heap.size w w2) => words_any p g o c w2 (fun j hj => by rw [hb.cell (p := ⟨g, o + j, none⟩) hgl]; exact hc j hj) _hcap
  generalize Sha.sched (bl p) = L at *
  have HH := Lib.hid (And.intro hH (And.intro hV (And.intro hL (And.intro hW HWd))))
  clear hL hW hcomp HWd hc
  have HS := Lib.hid (And.intro (vals_size H 8 hH) (And.intro (vals_one H) (And.intro (vals_size L 64 HH.out.2.2.1) (vals_one L))))
  clear hH hV
  generalize hA : (vals H).toArray = AH at *
  have HA := Lib.hid hA
  clear hA
  go_enter Tryd.func22, Tryd.ntmps22
  go_wp2_with fail
  generalize hw1 : World.alloc _ _ = w1
  have h1 : RowV w1 w.heap.size 36 (vals H) ∧ RowV w1 (w.heap.size + 1) 36 (vals (List.replicate 8 0)) := by
    rw [← hw1, ← HA.out]
    constructor
    · exact rowV_alloc (rowV_new w 36 (vals H)) _
    · have := rowV_new (w.alloc (.cells (vals H).toArray 36)) 36 (vals (List.replicate 8 0))
      rw [show (w.alloc (.cells (vals H).toArray 36)).heap.size = w.heap.size + 1 by simp] at this
      exact this
  have h2 : Below w.heap.size w w1 ∧ w1.heap.size = w.heap.size + 2 := by rw [← hw1]; exact ⟨((Below.refl _ w).alloc (Nat.le_refl _) _).alloc (by simp) _, by simp⟩
  have H1 := Lib.hid (And.intro h1.1 (And.intro h1.2 h2))
  clear hw1 h1 h2
  generalize hG : w.heap.size = G at *
  refine (HH.out.2.2.2.2 w1 H1.out.2.2.1).mono ?_
  rintro e w2 ⟨rfl, hb2⟩
  have r2 : RowV w2 G 36 (vals H) := rowV_below H1.out.1 hb2 (by rw [H1.out.2.2.2]; omega)
  have r3 : RowV w2 (G + 1) 36 (vals (List.replicate 8 0)) := rowV_below H1.out.2.1 hb2 (by rw [H1.out.2.2.2]; omega)
  have b2 : Below G w w2 := H1.out.2.2.1.trans (hb2.mono (by rw [H1.out.2.2.2]; omega))
  have s2 : G + 2 ≤ w2.heap.size := by have := hb2.size; rw [H1.out.2.2.2] at this; exact this
  have H2 := Lib.hid (And.intro r2 (And.intro r3 (And.intro b2 s2)))
  clear r2 r3 b2 s2 hb2 H1
  generalize hT : (vals L).toArray = T at *
  have HT := Lib.hid hT
  clear hT
  generalize hg5 : w2.heap.size = g5 at *
  have HG := Lib.hid hg5
  clear hg5
  go_wp2_with (first
    | (refine wpList_store_row rfl 37 _ _ rfl w2.heap.size T (by rw [HG.out]; rfl) rfl 37 (vals (List.replicate 64 0)).toArray (heap_alloc_new _ _) (by rw [HS.out.2.2.1]; exact info64) (by rw [HS.out.2.2.1]; rfl) HS.out.2.2.2 ?_; rw [HG.out]
       generalize hw3 : World.setRow _ _ _ = w3
       have H3 : Hid (RowV w3 G 36 (vals H) ∧ RowV w3 (G + 1) 36 (vals (List.replicate 8 0)) ∧ RowV w3 g5 37 (vals L) ∧ Below G w w3 ∧ g5 < w3.heap.size) := Lib.hid (by
         have hs := H2.out.2.2.2
         rw [← hw3]
         exact ⟨rowV_rowFar (rowV_alloc H2.out.1 _) (by omega) _, rowV_rowFar (rowV_alloc H2.out.2.1 _) (by omega) _, by rw [← HT.out]; exact rowV_row (by rw [← HG.out]; exact rowV_new w2 _ (vals (List.replicate 64 0))) _, below_setRow (H2.out.2.2.1.alloc (by rw [HG.out]; omega) _) (by omega) _, by simp [World.setRow, HG.out]⟩)
       clear hw3)
    | (refine wpList_load_row rfl 36 _ rfl G rfl _ _ _ _ H3.out.1 Tryd.underlying36 rfl (by rw [vals_size H 8 HH.out.1]; exact info8) ?_)
    | (refine wpList_store_row rfl 36 _ _ rfl w3.heap.size (vals H).toArray rfl rfl 36 (vals (List.replicate 8 0)).toArray (heap_alloc_new _ _) (by rw [vals_size H 8 HH.out.1]; exact info8) (by rw [vals_size H 8 HH.out.1]; rfl) (vals_one H) ?_))
  generalize hw4 : World.setRow _ _ _ = w4
  generalize hg6 : w3.heap.size = g6 at *
  have H4 : Hid (RowV w4 G 36 (vals H) ∧ RowV w4 (G + 1) 36 (vals (List.replicate 8 0)) ∧ RowV w4 g5 37 (vals L) ∧ RowV w4 g6 36 (vals H) ∧ Below G w w4 ∧ G + 2 ≤ g5 ∧ g5 < g6) := Lib.hid (by
    have hs := H2.out.2.2.2
    have hs3 := H3.out.2.2.2.2
    rw [← hw4]
    exact ⟨rowV_rowFar (rowV_alloc H3.out.1 _) (by omega) _, rowV_rowFar (rowV_alloc H3.out.2.1 _) (by omega) _, rowV_rowFar (rowV_alloc H3.out.2.2.1 _) (by omega) _,
      rowV_row (by rw [← hg6]; exact rowV_new w3 _ (vals (List.replicate 8 0))) _, below_setRow (H3.out.2.2.2.1.alloc (by rw [hg6]; omega) _) (by omega) _, hs, hs3⟩)
  clear hw4 hg6 H3 H2 HT HG
  obtain ⟨A0, A1, A2, A3, A4, A5, A6, A7, hA8⟩ : ∃ a b c d e f g h : Nat, H = [a, b, c, d, e, f, g, h] := by
    match H, HH.out.1 with
    | [a, b, c, d, e, f, g, h], _ => exact ⟨a, b, c, d, e, f, g, h, rfl⟩
  have HA8 := Lib.hid hA8
  clear hA8
  go_loopw [7, 8, 9, 10, 11] (fun i _ _ _ _ wr => ∃ k a b c d e f gg hh : Nat, k ≤ 64 ∧ i = .int .i64 k ∧ Hid (Sha.rnds L k H = [a, b, c, d, e, f, gg, hh]) ∧ Hid (RowV wr G 36 (vals H) ∧ RowV wr (G + 1) 36 (vals (List.replicate 8 0)) ∧ RowV wr g5 37 (vals L) ∧ RowV wr g6 36 (vals [a, b, c, d, e, f, gg, hh]) ∧ Below G w wr))
    (fun i _ _ _ _ _ => 64 - (intOf i).toNat)
  case atStart => exact ⟨0, A0, A1, A2, A3, A4, A5, A6, A7, by omega, rfl, Lib.hid HA8.out, Lib.hid ⟨H4.out.1, H4.out.2.1, H4.out.2.2.1, by rw [← HA8.out]; exact H4.out.2.2.2.1, H4.out.2.2.2.2.1⟩⟩
  case round =>
    obtain ⟨k, a, b, c1, d, e, f, gg, hh, hk, rfl, HR, HW⟩ := hrel
    have hs := Sha.rnds_ws L k H HH.out.2.1
    rw [HR.out] at hs
    have ba := hs a (by simp)
    have bb := hs b (by simp)
    have bc := hs c1 (by simp)
    have be := hs e (by simp)
    have bf := hs f (by simp)
    have bg := hs gg (by simp)
    clear hs
    by_cases hlt : k < 64
    · have cel : ∀ i, i < 8 → wr.cell? ⟨g6, i, none⟩ = some (.int .u32 (([a, b, c1, d, e, f, gg, hh] : List Nat).getD i 0 : Int)) := fun i hi => by
        rw [rowV_cell HW.out.2.2.2.1]; exact vals_at _ _ (by simpa using hi)
      have x0 : wr.cell? ⟨g6, 0, none⟩ = some (.int .u32 (a : Int)) := cel 0 (by omega)
      have x1 : wr.cell? ⟨g6, 1, none⟩ = some (.int .u32 (b : Int)) := cel 1 (by omega)
      have x2 : wr.cell? ⟨g6, 2, none⟩ = some (.int .u32 (c1 : Int)) := cel 2 (by omega)
      have x3 : wr.cell? ⟨g6, 3, none⟩ = some (.int .u32 (d : Int)) := cel 3 (by omega)
      have x4 : wr.cell? ⟨g6, 4, none⟩ = some (.int .u32 (e : Int)) := cel 4 (by omega)
      have x5 : wr.cell? ⟨g6, 5, none⟩ = some (.int .u32 (f : Int)) := cel 5 (by omega)
      have x6 : wr.cell? ⟨g6, 6, none⟩ = some (.int .u32 (gg : Int)) := cel 6 (by omega)
      have x7 : wr.cell? ⟨g6, 7, none⟩ = some (.int .u32 (hh : Int)) := cel 7 (by omega)
      clear cel
      have xw : wr.cell? ⟨g5, k, none⟩ = some (.int .u32 (L.getD k 0 : Int)) := by
        rw [rowV_cell HW.out.2.2.1]; exact vals_at _ _ (by rw [HH.out.2.2.1]; exact hlt)
      have HT : Hid (Sha.rnds L (k + 1) H = Sha.rnd (Sha.K k) (L.getD k 0) [a, b, c1, d, e, f, gg, hh]) := Lib.hid (by rw [Sha.rnds, HR.out])
      have hk64 := fun w => k_any k w hlt
      have HK := Lib.hid hk64
      clear hk64
      generalize Sha.K k = K at *
      generalize L.getD k 0 = W at *
      go_wp2_with fail
      go_quiet (fail)
      go_wp2_with fail
      generalize hwq : World.drewN _ _ = wa
      have HWa : Hid (RowV wa G 36 (vals H) ∧ RowV wa (G + 1) 36 (vals (List.replicate 8 0)) ∧ RowV wa g5 37 (vals L) ∧ RowV wa g6 36 (vals [a, b, c1, d, e, f, gg, hh]) ∧ Below G w wa) := Lib.hid (by rw [← hwq]; exact ⟨HW.out.1, HW.out.2.1, HW.out.2.2.1, HW.out.2.2.2.1, below_drewN HW.out.2.2.2.2 _⟩)
      rw [show wr.cell? = wa.cell? by rw [← hwq]; rfl] at x0 x1 x2 x3 x4 x5 x6 x7 xw
      clear hwq HW
      go_quiet (first
        | (go_at_call_has 26 (Value.int .i64 6); exact turnq6 e _ _ be)
        | (go_at_call_has 26 (Value.int .i64 11); exact turnq11 e _ _ be)
        | (go_at_call_has 26 (Value.int .i64 25); exact turnq25 e _ _ be)
        | (go_at_call 27; exact quiet_eq (HK.out _)))
      have q1 := S1_int e be
      have q2 := ch_int e f gg be bf bg
      go_wp2_with fail
      have qx : (((hh : Int) + (Sha.S1 e : Int) + (Sha.ch e f gg : Int) + (K : Int)) % 4294967296 + (W : Int)) % 4294967296 = (Sha.rx K W e f gg hh : Int) := by unfold Sha.rx; omega
      rw [q1, q2, qx]
      have HT2 : Hid (Sha.rnds L (k + 1) H = [(Sha.rx K W e f gg hh + Sha.ry a b c1) % 4294967296, a, b, c1, (d + Sha.rx K W e f gg hh) % 4294967296, e, f, gg]) := HT
      generalize Sha.rx K W e f gg hh = X at HT2 ⊢
      clear qx q1 q2 HT
      generalize hwq : World.drewN _ _ = wb
      have HWb : Hid (RowV wb G 36 (vals H) ∧ RowV wb (G + 1) 36 (vals (List.replicate 8 0)) ∧ RowV wb g5 37 (vals L) ∧ RowV wb g6 36 (vals [a, b, c1, d, e, f, gg, hh]) ∧ Below G w wb) := Lib.hid (by rw [← hwq]; exact ⟨HWa.out.1, HWa.out.2.1, HWa.out.2.2.1, HWa.out.2.2.2.1, below_drewN HWa.out.2.2.2.2 _⟩)
      rw [show wa.cell? = wb.cell? by rw [← hwq]; rfl] at x0 x1 x2 x3 x4 x5 x6 x7
      clear hwq HWa
      go_quiet (first
        | (go_at_call_has 26 (Value.int .i64 2); exact turnq2 a _ _ ba)
        | (go_at_call_has 26 (Value.int .i64 13); exact turnq13 a _ _ ba)
        | (go_at_call_has 26 (Value.int .i64 22); exact turnq22 a _ _ ba))
      have q3 := S0_int a ba
      have q4 := mj_int a b c1 ba bb bc
      have qy : ((Sha.S0 a : Int) + (Sha.mj a b c1 : Int)) % 4294967296 = (Sha.ry a b c1 : Int) := by unfold Sha.ry; omega
      generalize hwq : World.drewN _ _ = wd
      have HWd : Hid (RowV wd G 36 (vals H) ∧ RowV wd (G + 1) 36 (vals (List.replicate 8 0)) ∧ RowV wd g5 37 (vals L) ∧ RowV wd g6 36 (vals [a, b, c1, d, e, f, gg, hh]) ∧ Below G w wd) := Lib.hid (by rw [← hwq]; exact ⟨HWb.out.1, HWb.out.2.1, HWb.out.2.2.1, HWb.out.2.2.2.1, below_drewN HWb.out.2.2.2.2 _⟩)
      rw [show wb.cell? = wd.cell? by rw [← hwq]; rfl] at x0 x1 x2 x3 x4 x5 x6
      clear hwq HWb
      have HY : Hid (((Sha.S0 a : Int) + (Sha.mj a b c1 : Int)) % 4294967296 = (Sha.ry a b c1 : Int)) := Lib.hid qy
      clear qy
      rw [q3, q4, HY.out]
      generalize Sha.ry a b c1 = Y at HT2 ⊢
      clear q3 q4 HY
      have hgd : wd.heap[g6]? = some (.cells (vals [a, b, c1, d, e, f, gg, hh]).toArray 36) := HWd.out.2.2.2.1
      have hsz : (vals [a, b, c1, d, e, f, gg, hh]).toArray.size = 8 := rfl
      generalize (vals [a, b, c1, d, e, f, gg, hh]).toArray = OLD at hgd hsz
      have HGD := Lib.hid (And.intro hgd hsz)
      clear hgd hsz
      go_wp2_with (refine wpList_store_row rfl 36 _ _ (by rfl) g6 #[.int .u32 (((X : Int) + (Y : Int)) % 4294967296), .int .u32 (a : Int), .int .u32 (b : Int), .int .u32 (c1 : Int), .int .u32 (((d : Int) + (X : Int)) % 4294967296), .int .u32 (e : Int), .int .u32 (f : Int), .int .u32 (gg : Int)] (by rfl) (by rfl) 36 OLD HGD.out.1 info8 HGD.out.2 (eight_one _ _ _ _ _ _ _ _) ?_)
      have hcell : (#[.int .u32 (((X : Int) + (Y : Int)) % 4294967296), .int .u32 (a : Int), .int .u32 (b : Int), .int .u32 (c1 : Int), .int .u32 (((d : Int) + (X : Int)) % 4294967296), .int .u32 (e : Int), .int .u32 (f : Int), .int .u32 (gg : Int)] : Array Value) = (vals [(X + Y) % 4294967296, a, b, c1, (d + X) % 4294967296, e, f, gg]).toArray := by
        have e1 : (((X + Y) % 4294967296 : Nat) : Int) = ((X : Int) + (Y : Int)) % 4294967296 := by omega
        have e2 : (((d + X) % 4294967296 : Nat) : Int) = ((d : Int) + (X : Int)) % 4294967296 := by omega
        unfold vals
        simp only [List.map_cons, List.map_nil]
        rw [e1, e2]
      have hrow := rowV_row HWd.out.2.2.2.1 (vals [(X + Y) % 4294967296, a, b, c1, (d + X) % 4294967296, e, f, gg])
      rw [← hcell] at hrow
      have hs5 := H4.out.2.2.2.2.2.1
      have hs6 := H4.out.2.2.2.2.2.2
      have HF := Lib.hid (And.intro (rowV_rowFar HWd.out.1 (show G ≠ g6 by omega) #[.int .u32 (((X : Int) + (Y : Int)) % 4294967296), .int .u32 (a : Int), .int .u32 (b : Int), .int .u32 (c1 : Int), .int .u32 (((d : Int) + (X : Int)) % 4294967296), .int .u32 (e : Int), .int .u32 (f : Int), .int .u32 (gg : Int)]) (And.intro (rowV_rowFar HWd.out.2.1 (show G + 1 ≠ g6 by omega) #[.int .u32 (((X : Int) + (Y : Int)) % 4294967296), .int .u32 (a : Int), .int .u32 (b : Int), .int .u32 (c1 : Int), .int .u32 (((d : Int) + (X : Int)) % 4294967296), .int .u32 (e : Int), .int .u32 (f : Int), .int .u32 (gg : Int)])
        (And.intro (rowV_rowFar HWd.out.2.2.1 (show g5 ≠ g6 by omega) #[.int .u32 (((X : Int) + (Y : Int)) % 4294967296), .int .u32 (a : Int), .int .u32 (b : Int), .int .u32 (c1 : Int), .int .u32 (((d : Int) + (X : Int)) % 4294967296), .int .u32 (e : Int), .int .u32 (f : Int), .int .u32 (gg : Int)]) (And.intro hrow (below_setRow HWd.out.2.2.2.2 (show G ≤ g6 by omega) #[.int .u32 (((X : Int) + (Y : Int)) % 4294967296), .int .u32 (a : Int), .int .u32 (b : Int), .int .u32 (c1 : Int), .int .u32 (((d : Int) + (X : Int)) % 4294967296), .int .u32 (e : Int), .int .u32 (f : Int), .int .u32 (gg : Int)])))))
      clear hcell hrow hs5 hs6
      go_roundw
      case rel => exact ⟨k + 1, (X + Y) % 4294967296, a, b, c1, (d + X) % 4294967296, e, f, gg, by omega, by go_num, HT2, HF⟩
      case measure => simp [intOf]; omega
    · obtain rfl : k = 64 := by omega
      clear ba bb bc be bf bg
      have hVl := Sha.rnds_len L 64 H HH.out.1
      rw [HR.out] at hVl
      have HV := Lib.hid hVl
      clear hVl HA8
      have HQ : Hid (G + 2 ≤ g5 ∧ g5 < g6) := Lib.hid ⟨H4.out.2.2.2.2.2.1, H4.out.2.2.2.2.2.2⟩
      clear H4
      go_wp2_with fail
      go_loopw [12] (fun i wr => ∃ j : Nat, j ≤ 8 ∧ i = .int .i64 (j : Int) ∧ Hid (RowV wr G 36 (vals (mixS H [a, b, c1, d, e, f, gg, hh] j)) ∧ RowV wr (G + 1) 36 (vals (List.replicate 8 0)) ∧ RowV wr g6 36 (vals [a, b, c1, d, e, f, gg, hh]) ∧ Below G w wr))
        (fun i _ => 8 - (intOf i).toNat)
      case atStart => exact ⟨0, by omega, rfl, Lib.hid ⟨HW.out.1, HW.out.2.1, HW.out.2.2.2.1, HW.out.2.2.2.2⟩⟩
      case round =>
        obtain ⟨j, hj, rfl, HW2⟩ := hrel
        by_cases hlt8 : j < 8
        · have HS8 := Lib.hid (mixS_succ H [a, b, c1, d, e, f, gg, hh] j HH.out.1 HV.out hlt8)
          have cj : wr.cell? ⟨G, j, none⟩ = some (.int .u32 (H.getD j 0 : Int)) := by
            rw [rowV_cell HW2.out.1, vals_at _ _ (by rw [mixS_len _ _ _ HH.out.1 HV.out hj]; exact hlt8), mixS_at H _ j HH.out.1 HV.out hlt8]
          have cv : wr.cell? ⟨g6, j, none⟩ = some (.int .u32 (([a, b, c1, d, e, f, gg, hh] : List Nat).getD j 0 : Int)) := by
            rw [rowV_cell HW2.out.2.2.1, vals_at _ _ (by rw [HV.out]; exact hlt8)]
          have fj := rowV_frozen HW2.out.1 j
          generalize H.getD j 0 = P at *
          generalize ([a, b, c1, d, e, f, gg, hh] : List Nat).getD j 0 = Q at *
          go_wp2_with fail
          go_region
          go_wp2_with fail
          have hv : ((P : Int) + (Q : Int)) % 4294967296 = (((P + Q) % 4294967296 : Nat) : Int) := by omega
          have hst := rowV_stored HW2.out.1 j (.int .u32 (((P + Q) % 4294967296 : Nat) : Int))
          rw [vals_set, HS8.out, ← hv] at hst
          have HF := Lib.hid (And.intro hst (And.intro (fun v => rowV_far (i := j) HW2.out.2.1 (show G + 1 ≠ G by omega) v) (And.intro (fun v => rowV_far (i := j) HW2.out.2.2.1 (show g6 ≠ G by have := HQ.out.1; have := HQ.out.2; omega) v) (fun v => HW2.out.2.2.2.setCell (p := ⟨G, j, none⟩) (Nat.le_refl _) v))))
          clear hst hv
          go_roundw
          case rel => exact ⟨j + 1, by omega, by go_num, Lib.hid ⟨HF.out.1, HF.out.2.1 _, HF.out.2.2.1 _, (HF.out.2.2.2 _).drew⟩⟩
          case measure => simp [intOf]; omega
        · obtain rfl : j = 8 := by omega
          have hE := mixS_end H [a, b, c1, d, e, f, gg, hh] HH.out.1 HV.out
          have hal := Sha.addL_len H [a, b, c1, d, e, f, gg, hh] HH.out.1 HV.out
          have HR2 : Hid (RowV wr G 36 (vals (Sha.addL H [a, b, c1, d, e, f, gg, hh])) ∧ RowV wr (G + 1) 36 (vals (List.replicate 8 0)) ∧ Below G w wr) := Lib.hid ⟨by rw [← hE]; exact HW2.out.1, HW2.out.2.1, HW2.out.2.2.2⟩
          have hg1 : wr.heap[G]? = some (.cells (vals (Sha.addL H [a, b, c1, d, e, f, gg, hh])).toArray 36) := HR2.out.1
          have hg0 : wr.heap[G + 1]? = some (.cells (vals (List.replicate 8 0)).toArray 36) := HR2.out.2.1
          have hz0 : (vals (List.replicate 8 0)).toArray.size = 8 := vals_size _ 8 rfl
          have HZ := Lib.hid (And.intro (vals_size _ 8 hal) (And.intro (vals_one (Sha.addL H [a, b, c1, d, e, f, gg, hh])) (And.intro hg1 (And.intro hg0 hz0))))
          clear hg1 hg0 hE hal hz0
          generalize hR0 : (vals (Sha.addL H [a, b, c1, d, e, f, gg, hh])).toArray = R at HZ
          generalize (vals (List.replicate 8 0)).toArray = Z at HZ
          have HR0 := Lib.hid hR0
          clear hR0
          go_wp2_with (first
            | (refine wpList_load_row rfl 36 _ rfl G rfl _ _ _ _ HZ.out.2.2.1 Tryd.underlying36 rfl (by rw [HZ.out.1]; exact info8) ?_)
            | (refine wpList_store_row rfl 36 _ _ rfl (G + 1) R rfl rfl _ _ HZ.out.2.2.2.1 (by rw [HZ.out.1]; exact info8) (by rw [HZ.out.1, HZ.out.2.2.2.2]) HZ.out.2.1 ?_))
          have hr := setRow_heap _ (G + 1) Z R 36 (0, 0) HZ.out.2.2.2.1
          refine bodyPost_ret (v := .agg R) (results_cell_row rfl _ _ (G + 1) _ _ _ _ rfl hr Tryd.underlying36 rfl (by rw [HZ.out.1]; exact info8)) rfl ⟨by rw [HR.out, HR0.out], ?_⟩
          rw [hG]
          exact below_setRow HR2.out.2.2 (by omega) _
end Go.Proofs.YtjdjajjogpmdaaaDoor
