/-
  Layer 3: what the document's words answer.
-/
import Derived.Test.YtjdjajjogpmdaaaDoorShaSpread
import Derived.Deep.RegionHeld3
import Derived.Laws.CopyOwn
import Derived.Sort.AtCall
import Derived.IntWalk
namespace Go.Proofs.YtjdjajjogpmdaaaDoor
open Go.RowKit

/-- the words of 64 bytes -/
def bl (p : List UInt8) : List Nat := (List.range 16).map fun i => Sha.part p (4 * i) 4
theorem bl_len (p : List UInt8) : (bl p).length = 16 := by simp [bl]
theorem bl_at (p : List UInt8) (t : Nat) (h : t < 16) : (bl p).getD t 0 = Sha.part p (4 * t) 4 := by
  unfold bl; rw [List.getD_eq_getElem?_getD, List.getElem?_map, List.getElem?_range h]; rfl
theorem bl_ws (p : List UInt8) : Sha.Ws (bl p) := by
  intro x hx
  obtain ⟨i, _, rfl⟩ := List.mem_map.1 hx
  exact Sha.part_lt p _ 4
theorem more_take (l : List Nat) : ∀ k j, j ≤ k → (Sha.more k l).take (l.length + j) = Sha.more j l
  | 0, j, h => by
    obtain rfl : j = 0 := by omega
    exact List.take_of_length_le (Nat.le_refl _)
  | k + 1, j, h => by
    by_cases hj : j = k + 1
    · subst hj; exact List.take_of_length_le (by rw [Sha.more_len]; omega)
    · rw [Sha.more, List.take_append_of_le_length (by rw [Sha.more_len]; omega)]
      exact more_take l k j (by omega)
theorem getD_take (l : List Nat) (n i : Nat) (h : i < n) : (l.take n).getD i 0 = l.getD i 0 := by
  rw [List.getD_eq_getElem?_getD, List.getD_eq_getElem?_getD, List.getElem?_take, if_pos h]
theorem sched_low (l : List Nat) (hl : l.length = 16) (i : Nat) (h : i < 16) : (Sha.sched l).getD i 0 = l.getD i 0 := by
  have e := more_take l 48 0 (by omega)
  rw [← getD_take (Sha.sched l) 16 i h]
  rw [hl] at e
  show (List.take (16 + 0) (Sha.more 48 l)).getD i 0 = _
  rw [e]; rfl
theorem sched_high (l : List Nat) (hl : l.length = 16) (k : Nat) (hk : k < 48) : (Sha.sched l).getD (k + 16) 0 =
    ((((Sha.sched l).getD k 0 + Sha.s0 ((Sha.sched l).getD (k + 1) 0)) % 4294967296 + (Sha.sched l).getD (k + 9) 0) % 4294967296 + Sha.s1 ((Sha.sched l).getD (k + 14) 0)) % 4294967296 := by
  have e1 := more_take l 48 k (by omega)
  have e2 := more_take l 48 (k + 1) (by omega)
  rw [hl] at e1 e2
  have hg : ∀ i, i < k + 16 → (Sha.sched l).getD i 0 = (Sha.more k l).getD i 0 := fun i hi => by
    rw [← e1, getD_take _ _ _ (by omega)]; rfl
  rw [hg k (by omega), hg (k + 1) (by omega), hg (k + 9) (by omega), hg (k + 14) (by omega)]
  have h3 : (Sha.sched l).getD (k + 16) 0 = (Sha.more (k + 1) l).getD (k + 16) 0 := by
    rw [← e2, getD_take _ _ _ (by omega)]; rfl
  have hlen : (Sha.more k l).length = k + 16 := by rw [Sha.more_len, hl]; omega
  rw [h3, Sha.more, List.getD_eq_getElem?_getD, List.getElem?_append_right (by omega), hlen, Nat.sub_self]
  show Sha.nextW _ = _
  unfold Sha.nextW; rw [hlen]; rfl
/-- n cells of which the first k are laid -/
def lay (n : Nat) (L : List Nat) (k : Nat) : List Nat := L.take k ++ List.replicate (n - k) 0
theorem lay_len (n : Nat) (L : List Nat) (k : Nat) (hL : L.length = n) (hk : k ≤ n) : (lay n L k).length = n := by
  unfold lay; rw [List.length_append, List.length_take, List.length_replicate]; omega
theorem lay_end (n : Nat) (L : List Nat) (hL : L.length = n) : lay n L n = L := by unfold lay; rw [List.take_of_length_le (by omega)]; simp
theorem lay_low (n : Nat) (L : List Nat) (k i : Nat) (hL : L.length = n) (hk : k ≤ n) (hi : i < k) : (lay n L k).getD i 0 = L.getD i 0 := by
  unfold lay
  rw [List.getD_eq_getElem?_getD, List.getElem?_append_left (by rw [List.length_take]; omega), ← List.getD_eq_getElem?_getD, getD_take _ _ _ hi]
theorem lay_succ (n : Nat) (L : List Nat) (k : Nat) (hL : L.length = n) (hk : k < n) : (vals (lay n L k)).set k (.int .u32 (L.getD k 0 : Int)) = vals (lay n L (k + 1)) := by
  have hk2 : k < L.length := by omega
  have e : L[k] = L.getD k 0 := by rw [List.getD_eq_getElem?_getD, List.getElem?_eq_getElem hk2]; rfl
  rw [vals_set]
  congr 1
  unfold lay
  rw [List.set_append_right _ _ (by rw [List.length_take]; omega), List.length_take, show k - min k L.length = 0 by omega, List.take_succ_eq_append_getElem hk2, e, List.append_assoc,
    show n - k = (n - (k + 1)) + 1 by omega, List.replicate_succ, List.set_cons_zero]
  rfl
theorem be4_int (a b c d : UInt8) : bits .or .u32 (bits .or .u32 (bits .or .u32 ((a.toNat : Int) * 16777216) ((b.toNat : Int) * 65536)) ((c.toNat : Int) * 256)) (d.toNat : Int) = (((((a.toNat) * 256 + b.toNat) * 256 + c.toNat) * 256 + d.toNat : Nat) : Int) := by
  have ha := a.toNat_lt
  have hb := b.toNat_lt
  have hc := c.toNat_lt
  have hd := d.toNat_lt
  have e1 : (a.toNat : Int) * 16777216 = ((2 ^ 24 * a.toNat : Nat) : Int) := by omega
  have e2 : (b.toNat : Int) * 65536 = ((b.toNat * 65536 : Nat) : Int) := by omega
  have e3 : (c.toNat : Int) * 256 = ((c.toNat * 256 : Nat) : Int) := by omega
  rw [e1, e2, e3, or_32 _ _ (by omega) (by omega), ← Nat.two_pow_add_eq_or_of_lt (by omega)]
  have e4 : 2 ^ 24 * a.toNat + b.toNat * 65536 = 2 ^ 16 * (a.toNat * 256 + b.toNat) := by omega
  rw [e4, or_32 _ _ (by omega) (by omega), ← Nat.two_pow_add_eq_or_of_lt (by omega)]
  have e5 : 2 ^ 16 * (a.toNat * 256 + b.toNat) + c.toNat * 256 = 2 ^ 8 * ((a.toNat * 256 + b.toNat) * 256 + c.toNat) := by omega
  rw [e5, or_32 _ _ (by omega) (by omega), ← Nat.two_pow_add_eq_or_of_lt (by omega)]
  omega
theorem info64 : (Tryd.prog.info? 37).map (·.size) = some 64 := by kernel_rfl
theorem part4 (p : List UInt8) (s : Nat) : Sha.part p s 4 = ((((p.getD s 0).toNat * 256 + (p.getD (s + 1) 0).toNat) * 256 + (p.getD (s + 2) 0).toNat) * 256 + (p.getD (s + 3) 0).toNat) := by
  simp only [Sha.part, Nat.zero_mul, Nat.zero_add, Nat.add_zero]

set_option maxRecDepth 100000 in
set_option maxHeartbeats 1600000 in
theorem words_any (p : List UInt8) (g o c : Nat) (w : World) (hc : ∀ j, j < 64 → w.cell? ⟨g, o + j, none⟩ = some (.int .u8 ((p.getD j 0).toNat : Int))) (_hcap : 64 ≤ c) :
    Calls Tryd.prog 25 #[.slice (some ⟨g, o, none⟩) 64 c] w fun e w' => e = .returned (.agg (vals (Sha.sched (bl p))).toArray) ∧ Below w.heap.size w w' := by
  have hgl : g < w.heap.size := World.block_lt_of_cell? w _ (hc 0 (by omega))
  have HC := Lib.hid hc; clear hc
  have hL := Sha.sched_len (bl p) (bl_len p)
  have hW : Sha.Ws (Sha.sched (bl p)) := Sha.more_ws _ _ (bl_ws p)
  have HL := Lib.hid (And.intro hL hW)
  have HS := Lib.hid (And.intro (sched_low (bl p) (bl_len p)) (And.intro (sched_high (bl p) (bl_len p)) (bl_at p)))
  clear hL hW
  generalize Sha.sched (bl p) = L at *
  generalize bl p = BL at *
  go_enter Tryd.func25, Tryd.ntmps25
  go_wp2_with fail
  generalize hw1 : World.alloc _ _ = w1
  have h1 : RowV w1 (w.heap.size + 1) 37 (vals (lay 64 L 0)) ∧ RowV w1 w.heap.size 37 (vals (lay 64 L 0)) := by
    rw [← hw1]
    constructor
    · have := rowV_new (w.alloc (.cells (vals (List.replicate 64 0)).toArray 37)) 37 (vals (List.replicate 64 0))
      rw [show (w.alloc (.cells (vals (List.replicate 64 0)).toArray 37)).heap.size = w.heap.size + 1 by simp] at this
      exact this
    · exact rowV_alloc (rowV_new w 37 (vals (List.replicate 64 0))) _
  have h2 : Below w.heap.size w w1 := by rw [← hw1]; exact ((Below.refl _ w).alloc (Nat.le_refl _) _).alloc (by simp) _
  have H1 := Lib.hid (And.intro h1.1 (And.intro h1.2 h2))
  clear hw1 h1 h2
  generalize hG : w.heap.size = G at *
  go_loopw [4, 5, 6] (fun i _ _ wr => ∃ k : Nat, k ≤ 64 ∧ i = .int .i64 (k : Int) ∧ Hid (RowV wr (G + 1) 37 (vals (lay 64 L k)) ∧ RowV wr G 37 (vals (lay 64 L 0))) ∧ Hid (Below G w wr))
    (fun i _ _ _ => 64 - (intOf i).toNat)
  case atStart => exact ⟨0, by omega, rfl, Lib.hid ⟨H1.out.1, H1.out.2.1⟩, Lib.hid H1.out.2.2⟩
  case round =>
    obtain ⟨k, hk, rfl, HR, HB⟩ := hrel
    by_cases hlt : k < 64
    · have hst := lay_succ 64 L k HL.out.1 hlt
      have HST := Lib.hid hst
      clear hst
      have fk := rowV_frozen HR.out.1 k
      have ck : wr.cell? ⟨G + 1, k, none⟩ = some (.int .u32 ((lay 64 L k).getD k 0 : Int)) := by
        rw [rowV_cell HR.out.1]; exact vals_at _ _ (by rw [lay_len 64 L k HL.out.1 hk]; omega)
      by_cases h16 : k < 16
      · have b0 : wr.cell? ⟨g, o + 4 * k, none⟩ = some (.int .u8 ((p.getD (4 * k) 0).toNat : Int)) := by rw [HB.out.cell hgl]; exact HC.out _ (by omega)
        have b1 : wr.cell? ⟨g, o + (4 * k + 1), none⟩ = some (.int .u8 ((p.getD (4 * k + 1) 0).toNat : Int)) := by rw [HB.out.cell hgl]; exact HC.out _ (by omega)
        have b2 : wr.cell? ⟨g, o + (4 * k + 2), none⟩ = some (.int .u8 ((p.getD (4 * k + 2) 0).toNat : Int)) := by rw [HB.out.cell hgl]; exact HC.out _ (by omega)
        have b3 : wr.cell? ⟨g, o + (4 * k + 3), none⟩ = some (.int .u8 ((p.getD (4 * k + 3) 0).toNat : Int)) := by rw [HB.out.cell hgl]; exact HC.out _ (by omega)
        have hv : L.getD k 0 = _ := (HS.out.1 k h16).trans ((HS.out.2.2 k h16).trans (part4 p (4 * k)))
        have x0 := (p.getD (4 * k) 0).toNat_lt
        have x1 := (p.getD (4 * k + 1) 0).toNat_lt
        have x2 := (p.getD (4 * k + 2) 0).toNat_lt
        have x3 := (p.getD (4 * k + 3) 0).toNat_lt
        have hbe := be4_int (p.getD (4 * k) 0) (p.getD (4 * k + 1) 0) (p.getD (4 * k + 2) 0) (p.getD (4 * k + 3) 0)
        rw [← hv] at hbe
        have HV := Lib.hid hbe
        clear hbe hv
        have e0 : (4 * (k : Int)).toNat = 4 * k := by omega
        have e1 : (4 * (k : Int) + 1).toNat = 4 * k + 1 := by omega
        have e2 : (4 * (k : Int) + 2).toNat = 4 * k + 2 := by omega
        have e3 : (4 * (k : Int) + 3).toNat = 4 * k + 3 := by omega
        generalize (p.getD (4 * k) 0).toNat = y0 at *
        generalize (p.getD (4 * k + 1) 0).toNat = y1 at *
        generalize (p.getD (4 * k + 2) 0).toNat = y2 at *
        generalize (p.getD (4 * k + 3) 0).toNat = y3 at *
        generalize (lay 64 L k).getD k 0 = z at *
        go_wp2_with fail
        go_region
        go_wp2_with fail
        have hst := rowV_stored HR.out.1 k (.int .u32 (L.getD k 0 : Int))
        rw [HST.out, ← HV.out] at hst
        have hfar := fun v => rowV_far (i := k) HR.out.2 (show G ≠ G + 1 by omega) v
        have hbl := fun v => HB.out.setCell (p := ⟨G + 1, k, none⟩) (show G ≤ G + 1 by omega) v
        have HF := Lib.hid (And.intro hst (And.intro hfar hbl))
        clear hst hfar hbl
        go_roundw
        case rel => exact ⟨k + 1, by omega, by go_num, Lib.hid ⟨HF.out.1, HF.out.2.1 _⟩, Lib.hid (HF.out.2.2 _).drew⟩
        case measure => simp [intOf]; omega
      · obtain ⟨t, rfl⟩ : ∃ t, k = t + 16 := ⟨k - 16, by omega⟩
        have cel : ∀ i, i < t + 16 → wr.cell? ⟨G + 1, i, none⟩ = some (.int .u32 (L.getD i 0 : Int)) := fun i hi => by
          rw [rowV_cell HR.out.1, ← lay_low 64 L (t + 16) i HL.out.1 hk hi]; exact vals_at _ _ (by rw [lay_len 64 L _ HL.out.1 hk]; omega)
        have c0 := cel t (by omega)
        have c1 := cel (t + 1) (by omega)
        have c9 := cel (t + 9) (by omega)
        have c14 := cel (t + 14) (by omega)
        have hv := HS.out.2.1 t (by omega)
        have bb := fun i => getD_lt HL.out.2 i
        have b0 := bb t
        have b1 := bb (t + 1)
        have b9 := bb (t + 9)
        have b14 := bb (t + 14)
        have HQ := Lib.hid (And.intro (s0_int (L.getD (t + 1) 0) b1) (s1_int (L.getD (t + 14) 0) b14))
        clear cel bb
        generalize L.getD t 0 = a0 at *
        generalize L.getD (t + 1) 0 = a1 at *
        generalize L.getD (t + 9) 0 = a9 at *
        generalize L.getD (t + 14) 0 = a14 at *
        generalize (lay 64 L (t + 16)).getD (t + 16) 0 = z at *
        have HV := Lib.hid hv
        clear hv
        have i0 : ((t + 16 : Nat) : Int) = (t : Int) + 16 := by omega
        rw [i0]
        have i1 : ¬ (t : Int) + 16 < 16 := by omega
        have i2 : (t : Int) + 16 < 64 := by omega
        have e15 : ((t : Int) + 16 - 15).toNat = t + 1 := by omega
        have e2 : ((t : Int) + 16 - 2).toNat = t + 14 := by omega
        have e16 : ((t : Int) + 16 - 16).toNat = t := by omega
        have e7 : ((t : Int) + 16 - 7).toNat = t + 9 := by omega
        have e0 : ((t : Int) + 16).toNat = t + 16 := by omega
        go_wp2_with fail
        go_quiet (fail)
        go_wp2_with fail
        generalize hwq : wr.drewN nq = wq
        have HR2 : Hid (RowV wq (G + 1) 37 (vals (lay 64 L (t + 16))) ∧ RowV wq G 37 (vals (lay 64 L 0))) := Lib.hid (by rw [← hwq]; exact HR.out)
        have HB2 : Hid (Below G w wq) := Lib.hid (by rw [← hwq]; exact below_drewN HB.out nq)
        rw [show wr.cell? = wq.cell? by rw [← hwq]; rfl] at c0 c9 ck
        rw [show wr.frozen? = wq.frozen? by rw [← hwq]; rfl] at fk
        clear hwq c1 c14 HR HB
        have v1 : IntKind.i64.wrap (t : Int) = (t : Int) := IntWalk.i64_in _ (by omega)
        have v2 : IntKind.i64.wrap ((t : Int) + 16 - 16) = (t : Int) := by rw [show (t : Int) + 16 - 16 = (t : Int) by omega]; exact v1
        have v3 : IntKind.i64.wrap ((t : Int) + 16 - 7) = (t : Int) + 9 := by rw [show (t : Int) + 16 - 7 = (t : Int) + 9 by omega]; exact IntWalk.i64_in _ (by omega)
        have v4 : IntKind.i64.wrap ((t : Int) + 9) = (t : Int) + 9 := IntWalk.i64_in _ (by omega)
        have v5 : ((t : Int) + 9).toNat = t + 9 := by omega
        have v6 : (t : Int) < 64 := by omega
        have v7 : (t : Int) + 9 < 64 := by omega
        have v8 : (0 : Int) ≤ (t : Int) + 9 := by omega
        have v9 : (0 : Int) ≤ (t : Int) + 16 := by omega
        go_region_held3 (fun w' => w'.cell? ⟨G + 1, t, none⟩ = some (.int .u32 (a0 : Int)) ∧ w'.cell? ⟨G + 1, t + 9, none⟩ = some (.int .u32 (a9 : Int)))
          (first | exact ⟨c0, c9⟩ | exact ⟨(World.cell?_setCell_other _ _ _ _ (by intro h; simp at h)).trans c0, (World.cell?_setCell_other _ _ _ _ (by intro h; simp at h)).trans c9⟩)
          (first
            | (go_at_call_has 26 (Value.int .i64 7); refine (turn_any a1 7 _ b1 (by omega)).mono ?_; rintro e3 w3 ⟨rfl, n3, rfl⟩)
            | (go_at_call_has 26 (Value.int .i64 18); refine (turn_any a1 18 _ b1 (by omega)).mono ?_; rintro e3 w3 ⟨rfl, n3, rfl⟩)
            | (go_at_call_has 26 (Value.int .i64 17); refine (turn_any a14 17 _ b14 (by omega)).mono ?_; rintro e3 w3 ⟨rfl, n3, rfl⟩)
            | (go_at_call_has 26 (Value.int .i64 19); refine (turn_any a14 19 _ b14 (by omega)).mono ?_; rintro e3 w3 ⟨rfl, n3, rfl⟩))
        go_wp2_with fail
        have hst := rowV_stored HR2.out.1 (t + 16) (.int .u32 (L.getD (t + 16) 0 : Int))
        rw [HST.out] at hst
        have hfar := fun v => rowV_far (i := t + 16) HR2.out.2 (show G ≠ G + 1 by omega) v
        have hbl := fun v => HB2.out.setCell (p := ⟨G + 1, t + 16, none⟩) (show G ≤ G + 1 by omega) v
        have hval : IntKind.u32.wrap (IntKind.u32.wrap (IntKind.u32.wrap ((a0 : Int) + bits .xor .u32 (bits .xor .u32 (Sha.rot 7 a1 : Int) (Sha.rot 18 a1 : Int)) ((a1 : Int) / 8)) + (a9 : Int)) + bits .xor .u32 (bits .xor .u32 (Sha.rot 17 a14 : Int) (Sha.rot 19 a14 : Int)) ((a14 : Int) / 1024)) = (L.getD (t + 16) 0 : Int) := by
          rw [HQ.out.1, HQ.out.2, HV.out, IntKind.wrap_u32, IntKind.wrap_u32, IntKind.wrap_u32]; omega
        rw [← hval] at hst
        have HF := Lib.hid (And.intro hst (And.intro hfar hbl))
        clear hst hfar hbl hval
        go_roundw
        case rel => exact ⟨t + 16 + 1, by omega, by go_num, Lib.hid ⟨HF.out.1, HF.out.2.1 _⟩, Lib.hid (below_drewN (HF.out.2.2 _) _)⟩
        case measure => simp [intOf]; omega
    · obtain rfl : k = 64 := by omega
      rw [lay_end 64 L HL.out.1] at HR
      have hsz : (vals L).toArray.size = 64 := by rw [List.size_toArray, vals_len, HL.out.1]
      have hone : (vals L).toArray.all (·.oneCell') = true := by
        rw [Array.all_eq_true_iff_forall_mem]
        intro x hx
        rw [List.mem_toArray] at hx
        obtain ⟨y, _, rfl⟩ := List.mem_map.1 hx; rfl
      have hsz0 : (vals (lay 64 L 0)).toArray.size = 64 := by rw [List.size_toArray, vals_len, lay_len 64 L 0 HL.out.1 (by omega)]
      have hg1 : wr.heap[G + 1]? = some (.cells (vals L).toArray 37) := HR.out.1
      have hg0 : wr.heap[G]? = some (.cells (vals (lay 64 L 0)).toArray 37) := HR.out.2
      have HZ := Lib.hid (And.intro hsz (And.intro hone (And.intro hsz0 (And.intro hg1 hg0))))
      clear hsz hone hsz0 hg1 hg0 HR
      generalize hT : (vals L).toArray = T at *
      have HT := Lib.hid hT
      clear hT
      generalize (vals (lay 64 L 0)).toArray = Z at *
      go_wp2_with (first
        | (refine wpList_load_row rfl 37 _ rfl (G + 1) rfl _ _ _ _ HZ.out.2.2.2.1 Tryd.underlying37 rfl (by rw [HZ.out.1]; exact info64) ?_)
        | (refine wpList_store_row rfl 37 _ _ rfl G T rfl rfl _ _ HZ.out.2.2.2.2 (by rw [HZ.out.1]; exact info64) (by rw [HZ.out.1, HZ.out.2.2.1]) HZ.out.2.1 ?_))
      have hr := setRow_heap _ G Z T 37 (0, 0) HZ.out.2.2.2.2
      refine bodyPost_ret (v := .agg T) (results_cell_row rfl _ _ G _ _ _ _ rfl hr Tryd.underlying37 rfl (by rw [HZ.out.1]; exact info64)) rfl ⟨by rw [HT.out], ?_⟩
      rw [hG]
      exact below_setRow HB.out (Nat.le_refl _) _
end Go.Proofs.YtjdjajjogpmdaaaDoor
