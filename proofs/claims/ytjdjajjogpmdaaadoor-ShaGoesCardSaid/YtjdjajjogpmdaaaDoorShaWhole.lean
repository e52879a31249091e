/-
  Layer 3: what the document's whole answers: a text, filled up. A row of bytes that came of a string is appended to: it is told by its cells.
-/
import Derived.Test.YtjdjajjogpmdaaaDoorShaClose
import Derived.Test.YtjdjajjogpmdaaaDoorDump
import Derived.Test.YtjdjajjogpmdaaaDoorOctOwn
import Derived.Laws.IdiomStrings
import Derived.ArgAppend
import Derived.IntWalk
import Derived.Deep.LoopGhost
namespace Go.Proofs.YtjdjajjogpmdaaaDoor
open Go.RowKit

/-- the slice v, its row from block B on, holds the bytes l; all its cells are there, and may be written -/
def OwnF (w : World) (B : Nat) (v : Value) (l : List UInt8) : Prop := ∃ g cap, v = .slice (some ⟨g, 0, none⟩) l.length cap ∧ B ≤ g ∧ g < w.heap.size ∧ l.length ≤ cap ∧ cap ≤ maxLen ∧
  (∀ j (h : j < l.length), w.cell? ⟨g, j, none⟩ = some (.int .u8 (l[j].toNat : Int))) ∧ (∀ j, j < cap → (w.cell? ⟨g, j, none⟩).isSome = true ∧ w.frozen? ⟨g, j, none⟩ = false)
theorem ownF_alloc {w : World} {B : Nat} {v : Value} {l : List UInt8} (h : OwnF w B v l) (o : Obj) : OwnF (w.alloc o) B v l := by
  obtain ⟨g, cap, hv, hB, hg, h1, h2, h3, h4⟩ := h
  have hb : ∀ j, (w.alloc o).cell? ⟨g, j, none⟩ = w.cell? ⟨g, j, none⟩ := fun j => World.cell?_of_block (w := w) (Below.heap_alloc w o g hg)
  have hf : ∀ j, (w.alloc o).frozen? ⟨g, j, none⟩ = w.frozen? ⟨g, j, none⟩ := fun j => World.frozen?_of_block (w := w) (Below.heap_alloc w o g hg)
  exact ⟨g, cap, hv, hB, by simp; omega, h1, h2, fun j hj => by rw [hb]; exact h3 j hj, fun j hj => by rw [hb, hf]; exact h4 j hj⟩
theorem ownF_drewN {w : World} {B n : Nat} {v : Value} {l : List UInt8} (h : OwnF w B v l) : OwnF (w.drewN n) B v l := h
/-- '[]byte(s)' -/
theorem ownF_made (w : World) (E B : Nat) (s : ByteArray) (cap : Nat) (hB : B ≤ w.heap.size) (h1 : s.size ≤ cap) (h2 : cap ≤ maxLen) :
    OwnF (w.drew.alloc (.cells (bytesRow s cap) E ((bytesRow s cap).size, (bytesRow s cap).size + 1))) B (.slice (some ⟨w.heap.size, 0, none⟩) s.size cap) s.data.toList := by
  have hh := heap_alloc_new w.drew (.cells (bytesRow s cap) E ((bytesRow s cap).size, (bytesRow s cap).size + 1))
  have hsz : (bytesRow s cap).size = cap := by simp [bytesRow]; omega
  have e : (bytesRow s cap).toList = s.data.toList.map (fun b => Value.int .u8 (b.toNat : Int)) ++ List.replicate (cap - s.size) (.int .u8 0) := by simp [bytesRow]
  refine ⟨w.heap.size, cap, by simp, hB, by simp, by simpa using h1, h2, fun j hj => ?_, fun j hj => ⟨?_, ?_⟩⟩
  · rw [cell_of_row _ w.heap.size j _ _ _ hh]
    have h3 : (bytesRow s cap)[j]? = (bytesRow s cap).toList[j]? := by simp
    rw [h3, e, List.getElem?_append_left (by simpa using hj), List.getElem?_map, List.getElem?_eq_getElem hj]; rfl
  · rw [cell_of_row _ w.heap.size j _ _ _ hh, Array.getElem?_eq_getElem (by omega)]; rfl
  · have hh' : (w.drew.alloc (.cells (bytesRow s cap) E ((bytesRow s cap).size, (bytesRow s cap).size + 1))).heap[w.heap.size]? = some (.cells (bytesRow s cap) E ((bytesRow s cap).size, (bytesRow s cap).size + 1)) := hh
    simp only [World.frozen?, hh']
    rw [hsz]; simp; omega

theorem getL_snoc (l : List UInt8) (b : UInt8) (j : Nat) (h : j < (l ++ [b]).length) : (l ++ [b])[j] = if h2 : j < l.length then l[j] else b := by
  by_cases h2 : j < l.length
  · rw [dif_pos h2, List.getElem_append_left h2]
  · rw [dif_neg h2, List.getElem_append_right (by omega)]; simp

/-- one byte more -/
theorem run_append_F {P : Program} {w : World} {B : Nat} {v : Value} {l : List UInt8} (t ty E : TypeId) (i : TypeInfo) (ht : P.underlying t = some (.slice E)) (hi : P.info? E = some i) (hz : i.zero = some (.int .u8 0)) (hz1 : i.size = 1) (hz2 : i.bytes = 1)
    (hown : OwnF w B v l) (hB : B ≤ w.heap.size) (a : Addr) (c : Nat) (b : UInt8) (hb : w.cell? (a.add 0) = some (.int .u8 (b.toNat : Int))) (hl : l.length + 1 ≤ 140737488355328) :
    ∃ v' w', (Builtin.append_ #[t, t] ty #[v, .slice (some a) 1 c]).run P w = .ok v' w' ∧ OwnF w' B v' (l ++ [b]) ∧ Below B w w' := by
  obtain ⟨g, cap, rfl, hBg, hg, h1, h2, h3, h4⟩ := hown
  have hnews : ∀ j u, [Value.int .u8 (b.toNat : Int)][j]? = some u → w.cell? (a.add j) = some u := by
    intro j u hj
    match j, hj with
    | 0, hj => simp at hj; subst hj; exact hb
  by_cases hroom : l.length + 1 ≤ cap
  · have hr := run_append_room_cells (P := P) w t ty E i ht hi g 0 l.length cap a 1 c [.int .u8 (b.toNat : Int)] (by rw [hz1]; rfl) hnews one_cell hroom
      (fun j hj => by simp at hj; subst hj; rw [hz1]; exact (h4 _ (by omega)).1) (fun j hj => by simp at hj; subst hj; rw [hz1]; exact (h4 _ (by omega)).2)
    rw [hz1] at hr
    rw [show 0 + l.length * 1 = l.length by omega] at hr
    refine ⟨_, _, hr, ?_, (Below.refl B w).setCell (p := ⟨g, l.length, none⟩) hBg _⟩
    have hcl := (h4 l.length (by omega)).1
    obtain ⟨u, hu⟩ := Option.isSome_iff_exists.1 hcl
    refine ⟨g, cap, by simp, hBg, by simp [World.setCells, World.setCell]; exact hg, by simpa using hroom, h2, fun j hj => ?_, fun j hj => ⟨?_, ?_⟩⟩
    · show (w.setCell ⟨g, l.length, none⟩ (.int .u8 (b.toNat : Int))).cell? ⟨g, j, none⟩ = _
      rw [getL_snoc l b j hj]
      by_cases hjl : j < l.length
      · rw [dif_pos hjl, World.cell?_setCell_other _ _ _ _ (by intro h; simp at h <;> omega)]; exact h3 j hjl
      · have : j = l.length := by simp at hj; omega
        subst this
        rw [dif_neg hjl]; exact World.cell?_setCell_same _ _ _ hu
    · show ((w.setCell ⟨g, l.length, none⟩ (.int .u8 (b.toNat : Int))).cell? ⟨g, j, none⟩).isSome = true
      by_cases hjl : j = l.length
      · subst hjl; rw [World.cell?_setCell_same _ _ _ hu]; rfl
      · rw [World.cell?_setCell_other _ _ _ _ (by intro h; simp at h <;> omega)]; exact (h4 j hj).1
    · show (w.setCell ⟨g, l.length, none⟩ (.int .u8 (b.toNat : Int))).frozen? ⟨g, j, none⟩ = false
      rw [World.frozen?_setCell]; exact (h4 j hj).2
  · have hr := run_append_arg_grows (P := P) w t ty E i (.int .u8 0) 1 1 ht hi hz hz1 hz2 rfl (by omega) ⟨g, 0, none⟩ l.length cap (l.map fun b => Value.int .u8 (b.toNat : Int)) (by simp)
      (fun j u hj => by
        rw [List.getElem?_map] at hj
        have hjl : j < l.length := by
          by_cases h : j < l.length
          · exact h
          · rw [List.getElem?_eq_none (by omega)] at hj; cases hj
        rw [List.getElem?_eq_getElem hjl] at hj
        have hadd : (⟨g, 0, none⟩ : Addr).add j = ⟨g, j, none⟩ := by unfold Addr.add; split <;> simp_all
        rw [hadd, h3 j hjl]; exact hj) a 1 c [.int .u8 (b.toNat : Int)] rfl hnews (by omega) (by unfold maxLen; omega) (by omega)
    obtain ⟨v', w', hr, ho, hgr⟩ := hr
    refine ⟨v', w', hr, ?_, (Below.refl _ w).grown hgr hB (by simp)⟩
    have ho2 : OwnsB w' w.heap.size E v' (l ++ [b]) := by unfold OwnsB; simpa using ho
    have ho3 := ho2
    obtain ⟨hlen, ⟨rfl, h0⟩ | ⟨g', cap', cur, rfl, hBg', hg', hnc, hcm, hcs, htake⟩⟩ := ho2
    · simp at h0
    · refine ⟨g', cap', rfl, by omega, (Array.getElem?_eq_some_iff.1 hg').1, hnc, hcm, fun j hj => ?_, fun j hj => ⟨?_, ?_⟩⟩
      · unfold OwnsB at ho3
        rw [ho3.cellAt j (by omega), List.getElem?_map, List.getElem?_eq_getElem hj]; rfl
      · rw [cell_of_row w' g' j cur E _ hg', Array.getElem?_eq_getElem (by omega)]; rfl
      · simp [World.frozen?, hg']
theorem wpList_append_F {P : Program} {ops : Array Oper} {rest : List Oper} {o : Oper} {a : Act} {w : World} {Q : Exit → Act → World → Prop} (hgd : o.guard = none) (s x : Operand) (t : TypeId)
    (hop : o.op = Op.call { callee := Callee.builtin Builtin.append, args := #[s, x], argTypes := #[t, t] }) (E : TypeId) (i : TypeInfo) (ht : P.underlying t = some (.slice E)) (hi : P.info? E = some i) (hz : i.zero = some (.int .u8 0)) (hz1 : i.size = 1) (hz2 : i.bytes = 1)
    (B : Nat) (v : Value) (l : List UInt8) (hs : a.eval s = v) (hown : OwnF w B v l) (hB : B ≤ w.heap.size) (ad : Addr) (c : Nat) (b : UInt8) (hx : a.eval x = .slice (some ad) 1 c) (hb : w.cell? (ad.add 0) = some (.int .u8 (b.toNat : Int))) (hl : l.length + 1 ≤ 140737488355328)
    (h : ∀ v' w', OwnF w' B v' (l ++ [b]) → Below B w w' → wpList P ops Q rest (a.put o.dst v') w') : wpList P ops Q (o :: rest) a w := by
  refine wpList_plain hgd fun K hK' => ?_
  obtain ⟨v', w', hrun, r1, r2⟩ := run_append_F (P := P) t o.type E i ht hi hz hz1 hz2 hown hB ad c b hb hl
  unfold Oper.wp
  simp [execOp, hop, resolve, invoke, builtin, hs, hx, hrun, Result.andThen]
  exact hK' _ _ (h v' w' r1 r2)
theorem cell_made (w : World) (x : Value) (t : TypeId) : (w.alloc (.cells #[x] t)).cell? ((⟨w.heap.size, 0, none⟩ : Addr).add 0) = some x := by
  show (w.alloc (.cells #[x] t)).cell? ⟨w.heap.size, 0, none⟩ = some x
  rw [World.cell?_alloc_at _ _ _ _ rfl]; rfl

set_option maxRecDepth 100000 in
set_option maxHeartbeats 1600000 in
theorem whole_any (s : ByteArray) (w : World) (hs : s.size ≤ 1099511627776) :
    Calls Tryd.prog 21 #[.string s] w fun e w' => ∃ v, e = .returned v ∧ OwnF w' w.heap.size v (Sha.fill s.data.toList) ∧ Below w.heap.size w w' := by
  obtain ⟨i0, hi, hz0, hz1, hz2⟩ := info_parts Tryd.info5
  have HI := Lib.hid (And.intro hi (And.intro hz0 (And.intro hz1 hz2)))
  clear hi hz0 hz1 hz2
  have hcv := run_bytes_of_string (P := Tryd.prog) w 9 45 5 s Tryd.underlying9 Tryd.underlying45 Tryd.underlying5
  have hg1 := grownCap_ge w s.size 0 5
  have hg2 := grownCap_le_maxLen w s.size 0 5 (by unfold maxLen; omega)
  generalize grownCap w s.size 0 5 = cap at hcv hg1 hg2
  have hm := ownF_made w 5 w.heap.size s cap (Nat.le_refl _) hg1 hg2
  have hb : Below w.heap.size w (w.drew.alloc (.cells (bytesRow s cap) 5 ((bytesRow s cap).size, (bytesRow s cap).size + 1))) := (below_drewN (Below.refl _ w) 1).alloc (by simp) _
  generalize w.drew.alloc (.cells (bytesRow s cap) 5 ((bytesRow s cap).size, (bytesRow s cap).size + 1)) = w1 at hcv hm hb
  have hlen : s.data.toList.length = s.size := by simp
  have HM := Lib.hid (And.intro hm (And.intro hb hlen))
  clear hm hb hlen hg1 hg2
  generalize hB : w.heap.size = B at *
  go_enter Tryd.func21, Tryd.ntmps21
  go_wp2_with (at_builtin; refine wpList_append_F rfl _ _ 45 rfl 5 i0 Tryd.underlying45 HI.out.1 HI.out.2.1 HI.out.2.2.1 HI.out.2.2.2 B _ s.data.toList rfl (ownF_alloc HM.out.1 _) (by have := HM.out.2.1.size; simp; omega) ⟨w1.heap.size, 0, none⟩ 1 128 rfl (cell_made w1 _ _) (by rw [HM.out.2.2]; omega) ?_)
  intro v2 w2 ho2 hb2
  have hb3 : Below B w w2 := (HM.out.2.1.alloc (by have := HM.out.2.1.size; omega) _).trans hb2
  obtain ⟨n, hn⟩ : ∃ n, s.size = n := ⟨_, rfl⟩
  have H2 := Lib.hid (And.intro ho2 (And.intro hb3 (And.intro hn hB)))
  rw [hn] at hs
  clear ho2 hb2 hb3 hcv hn hB
  go_wp2_with fail
  go_loopg [3] (Sha.zeros n + 1) (fun gk v wr => ∃ j : Nat, j ≤ Sha.zeros n ∧ Sha.zeros n + 1 - j ≤ gk ∧ Hid (OwnF wr B v (s.data.toList ++ [128] ++ List.replicate j 0)) ∧ Hid (Below B w wr))
  case atStart => exact ⟨0, by omega, by omega, Lib.hid (by simpa using H2.out.1), Lib.hid H2.out.2.1⟩
  case round =>
    obtain ⟨j, hj, hgk, HO, HB⟩ := hrel
    obtain ⟨g, c, hv, _⟩ := HO.out
    have hl : (s.data.toList ++ [128] ++ List.replicate j (0 : UInt8)).length = n + 1 + j := by
      have h1 := HM.out.2.2
      have h2 := H2.out.2.2.1
      rw [List.length_append, List.length_append, h1, h2]; simp
    rw [hl] at hv
    subst hv
    obtain ⟨X, hX⟩ : ∃ X, s.data.toList ++ [128] ++ List.replicate j (0 : UInt8) = X := ⟨_, rfl⟩
    rw [hX] at hl HO
    have HL := Lib.hid (And.intro hl hX)
    clear hl hX
    have hz : Sha.zeros n = (119 - n % 64) % 64 := rfl
    have hz64 : Sha.zeros n < 64 := by unfold Sha.zeros; omega
    have hBs := HB.out.size
    by_cases hlt : j < Sha.zeros n
    · have td : (((n + 1 + j : Nat) : Int) % 64 != 56) = true := by rw [bne_iff_ne]; omega
      have HT := Lib.hid (And.intro hlt (And.intro hgk (And.intro hz64 hBs)))
      clear hz hlt hj hgk hz64 hBs
      have HN : Hid (n + 1 + j < 1099511627776 + 65) := Lib.hid (by have := HT.out.1; have := HT.out.2.2.1; omega)
      generalize n + 1 + j = N at *
      go_wp2_with (at_builtin; refine wpList_append_F rfl _ _ 45 rfl 5 i0 Tryd.underlying45 HI.out.1 HI.out.2.1 HI.out.2.2.1 HI.out.2.2.2 B _ X rfl (ownF_alloc HO.out _) (by have := HT.out.2.2.2; have := H2.out.2.2.2; simp; omega) ⟨wr.heap.size, 0, none⟩ 1 0 rfl (cell_made wr _ _) (by rw [HL.out.1]; have := HN.out; omega) ?_)
      intro v3 w3 ho3 hb3
      have he : X ++ [0] = s.data.toList ++ [128] ++ List.replicate (j + 1) 0 := by rw [rep_snoc, ← HL.out.2, List.append_assoc]
      rw [he] at ho3
      have H3 := Lib.hid (And.intro ho3 ((HB.out.alloc (by have := HT.out.2.2.2; have := H2.out.2.2.2; omega) _).trans hb3))
      clear ho3 hb3
      go_wp2_with fail
      go_roundg (Sha.zeros n - j)
      case measure => have := HT.out.1; have := HT.out.2.1; omega
      case rel => exact ⟨j + 1, by have := HT.out.1; omega, by omega, Lib.hid H3.out.1, Lib.hid H3.out.2⟩
    · obtain rfl : j = Sha.zeros n := by omega
      have td : (((n + 1 + Sha.zeros n : Nat) : Int) % 64 != 56) = false := by rw [bne_eq_false_iff_eq]; omega
      have HN : Hid (n + 1 + Sha.zeros n < 1099511627776 + 65) := Lib.hid (by omega)
      have hZ : Hid (s.data.toList.length = n) := Lib.hid (by rw [HM.out.2.2, H2.out.2.2.1])
      clear hz hlt hj hgk hz64 hBs
      have t8 : (s.size : Int) = (n : Int) := by have := H2.out.2.2.1; omega
      generalize n + 1 + Sha.zeros n = N at *
      go_wp2_with fail
      clear td
      go_loopw [3, 5] (fun v i wr => ∃ j : Nat, j ≤ 8 ∧ i = .int .i64 (7 - (j : Int)) ∧ Hid (OwnF wr B v (X ++ (Sha.len8 (8 * n)).take j)) ∧ Hid (Below B w wr))
        (fun _ i _ => (intOf i + 1).toNat)
      case atStart => exact ⟨0, by omega, rfl, Lib.hid (by simpa using HO.out), HB⟩
      case round =>
        obtain ⟨i, hi, rfl, HO3, HB3⟩ := hrel
        by_cases hlt : i < 8
        · obtain ⟨Y, hY⟩ : ∃ Y, X ++ (Sha.len8 (8 * n)).take i = Y := ⟨_, rfl⟩
          have hl3 : Y.length + 1 ≤ 140737488355328 := by
            rw [← hY, List.length_append, HL.out.1, List.length_take]
            have := HN.out
            omega
          rw [hY] at HO3
          have HY := Lib.hid hY
          clear hY
          have hb3 := HB3.out.size
          have hb4 := H2.out.2.2.2
          have HW := Lib.hid (And.intro hl3 (show B ≤ wr.heap.size by omega))
          clear hl3 hb3 hb4
          have e0 : (0 : Int) ≤ 8 * (7 - (i : Int)) := by omega
          have e1 : (8 * (7 - (i : Int))).toNat = 8 * (7 - i) := by omega
          have hv : (8 * (n : Int)) / 2 ^ (8 * (7 - i)) % 256 = ((UInt8.ofNat (8 * n / 2 ^ (8 * (7 - i)))).toNat : Int) := by rw [ofNat_int, cast_div, Int.natCast_mul]; rfl
          have HV := Lib.hid hv
          clear hv
          go_wp2_with (at_builtin; refine wpList_append_F rfl _ _ 45 rfl 5 i0 Tryd.underlying45 HI.out.1 HI.out.2.1 HI.out.2.2.1 HI.out.2.2.2 B _ Y rfl (ownF_alloc HO3.out _) (by have := HW.out.2; simp; omega) ⟨wr.heap.size, 0, none⟩ 1 (UInt8.ofNat (8 * n / 2 ^ (8 * (7 - i)))) rfl ((cell_made wr _ _).trans (by rw [HV.out])) HW.out.1 ?_)
          intro v4 w4 ho4 hb4
          have he : Y ++ [UInt8.ofNat (8 * n / 2 ^ (8 * (7 - i)))] = X ++ (Sha.len8 (8 * n)).take (i + 1) := by rw [len8_take _ _ hlt, ← HY.out, List.append_assoc]
          rw [he] at ho4
          have H4 := Lib.hid (And.intro ho4 ((HB3.out.alloc HW.out.2 _).trans hb4))
          clear ho4 hb4 e0 e1
          go_wp2_with fail
          go_roundw
          case rel => exact ⟨i + 1, by omega, by go_num, Lib.hid H4.out.1, Lib.hid H4.out.2⟩
          case measure => simp [intOf]; omega
        · obtain rfl : i = 8 := by omega
          have hF : X ++ (Sha.len8 (8 * n)).take 8 = Sha.fill s.data.toList := by
            rw [List.take_of_length_le (by rw [len8_len]; omega)]
            unfold Sha.fill; rw [hZ.out, HL.out.2]
          rw [hF] at HO3
          clear hF
          go_wp2_with fail
          go_ret
          exact ⟨_, rfl, HO3.out, HB3.out⟩
end Go.Proofs.YtjdjajjogpmdaaaDoor
