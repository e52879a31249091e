/-
  Layer 3: what written answers.
-/
import Derived.Test.YtjdjajjogpmdaaaDoorShaClose
namespace Go.Proofs.YtjdjajjogpmdaaaDoor
open Go.RowKit

set_option maxRecDepth 100000 in
theorem out_at8 (a b c d e f g h : Nat) : ∀ k, k < 32 → (Sha.out [a, b, c, d, e, f, g, h])[k]? = some (UInt8.ofNat ([a, b, c, d, e, f, g, h].getD (k / 4) 0 / 2 ^ (24 - k % 4 * 8)))
  | 0, _ => rfl
  | 1, _ => rfl
  | 2, _ => rfl
  | 3, _ => rfl
  | 4, _ => rfl
  | 5, _ => rfl
  | 6, _ => rfl
  | 7, _ => rfl
  | 8, _ => rfl
  | 9, _ => rfl
  | 10, _ => rfl
  | 11, _ => rfl
  | 12, _ => rfl
  | 13, _ => rfl
  | 14, _ => rfl
  | 15, _ => rfl
  | 16, _ => rfl
  | 17, _ => rfl
  | 18, _ => rfl
  | 19, _ => rfl
  | 20, _ => rfl
  | 21, _ => rfl
  | 22, _ => rfl
  | 23, _ => rfl
  | 24, _ => rfl
  | 25, _ => rfl
  | 26, _ => rfl
  | 27, _ => rfl
  | 28, _ => rfl
  | 29, _ => rfl
  | 30, _ => rfl
  | 31, _ => rfl
  | k + 32, hk => absurd hk (by omega)
theorem out_at (H : List Nat) (k : Nat) (hH : H.length = 8) (hk : k < 32) : (Sha.out H)[k]? = some (UInt8.ofNat (H.getD (k / 4) 0 / 2 ^ (24 - k % 4 * 8))) := by
  match H, hH with
  | [a, b, c, d, e, f, g, h], _ =>
    exact out_at8 a b c d e f g h k hk
theorem out_len (H : List Nat) (hH : H.length = 8) : (Sha.out H).length = 32 := by
  match H, hH with
  | [a, b, c, d, e, f, g, h], _ => rfl
/-- bytes as cells -/
def valB (l : List UInt8) : List Value := l.map fun b => Value.int .u8 (b.toNat : Int)
/-- the digest's bytes while they are written: k are -/
def mixO (o : List UInt8) (k : Nat) : List UInt8 := o.take k ++ List.replicate (32 - k) 0
theorem mixO_succ (o : List UInt8) (k : Nat) (b : UInt8) (ho : o.length = 32) (hk : k < 32) (hb : o[k]? = some b) : (valB (mixO o k)).set k (.int .u8 (b.toNat : Int)) = valB (mixO o (k + 1)) := by
  have hk2 : k < o.length := by omega
  have e : o[k] = b := by rw [List.getElem?_eq_getElem hk2] at hb; exact Option.some.inj hb
  unfold valB
  rw [← List.map_set (f := fun b : UInt8 => Value.int .u8 (b.toNat : Int))]
  congr 1
  unfold mixO
  rw [List.set_append_right _ _ (by rw [List.length_take]; omega), List.length_take, show k - min k o.length = 0 by omega, List.take_succ_eq_append_getElem hk2, e, List.append_assoc]
  rw [show 32 - k = (32 - (k + 1)) + 1 by omega, List.replicate_succ, List.set_cons_zero]
  rfl
theorem mixO_at (o : List UInt8) (k : Nat) (ho : o.length = 32) (hk : k < 32) : (valB (mixO o k))[k]? = some (.int .u8 0) := by
  unfold valB mixO
  rw [List.getElem?_map, List.getElem?_append_right (by rw [List.length_take]; omega), List.length_take, show k - min k o.length = 0 by omega, List.getElem?_replicate, if_pos (by omega)]
  rfl
theorem mixO_end (o : List UInt8) (ho : o.length = 32) : mixO o 32 = o := by
  unfold mixO; rw [List.take_of_length_le (by omega)]; simp

set_option maxRecDepth 100000 in
set_option maxHeartbeats 1600000 in
theorem written_any (m : List UInt8) (g : Nat) (w : World) (hd : Dig w g m) :
    Calls Tryd.prog 20 #[.pointer (some ⟨g, 0, none⟩)] w fun e w' => e = .returned (.string ⟨(Sha.out (Sha.hs m (m.length / 64))).toArray⟩) ∧ Below w.heap.size w w' := by
  obtain ⟨B, hB, hr⟩ := hd
  have hH := Sha.hs_len m (m.length / 64)
  have hW := Sha.hs_ws m (m.length / 64)
  generalize Sha.hs m (m.length / 64) = H at *
  have HH := Lib.hid (And.intro hH (And.intro hW hr))
  have HO := Lib.hid (out_len H hH)
  clear hH hW hr hB
  go_enter Tryd.func20, Tryd.ntmps20
  go_wp2_with fail
  generalize hw1 : World.alloc _ _ = w1
  have h1 : RowV w1 w.heap.size 53 (valB (mixO (Sha.out H) 0)) := by rw [← hw1]; exact rowV_new w _ (valB (List.replicate 32 0))
  have h2 : Below w.heap.size w w1 := by rw [← hw1]; exact (Below.refl _ w).alloc (Nat.le_refl _) _
  have H1 := Lib.hid (And.intro h1 h2)
  clear hw1 h1 h2
  have hgl := rowV_lt HH.out.2.2
  generalize hG : w.heap.size = G at *
  go_loopw [4, 5] (fun _ i wr => ∃ k : Nat, k ≤ 32 ∧ i = .int .i64 (k : Int) ∧ Hid (RowV wr G 53 (valB (mixO (Sha.out H) k))) ∧ Hid (Below G w wr))
    (fun _ i _ => 32 - (intOf i).toNat)
  case atStart => exact ⟨0, by omega, rfl, Lib.hid H1.out.1, Lib.hid H1.out.2⟩
  case round =>
    obtain ⟨k, hk, rfl, HR, HB⟩ := hrel
    by_cases hlt : k < 32
    · have c1 : wr.cell? ⟨g, k / 4, none⟩ = some (.int .u32 (H.getD (k / 4) 0 : Int)) := by
        rw [rowV_cell (rowV_below HH.out.2.2 HB.out hgl), digL_word H B m.length (k / 4) HH.out.1 (by omega)]
      have c2 : wr.cell? ⟨G, k, none⟩ = some (.int .u8 0) := by rw [rowV_cell HR.out, mixO_at _ _ HO.out hlt]
      have f2 := rowV_frozen HR.out k
      have HS := Lib.hid (mixO_succ (Sha.out H) k _ HO.out hlt (out_at H k HH.out.1 hlt))
      have b1 := getD_lt HH.out.2.1 (k / 4)
      generalize H.getD (k / 4) 0 = x at *
      have e1 : ((k : Int) / 4).toNat = k / 4 := by omega
      have e2 : (24 - (k : Int) % 4 * 8).toNat = 24 - k % 4 * 8 := by omega
      have e3 : (0 : Int) ≤ 24 - (k : Int) % 4 * 8 := by omega
      have e4 : ((k : Int) / 4) < 8 := by omega
      go_wp2_with fail
      have hv : (x : Int) / 2 ^ (24 - k % 4 * 8) % 256 = ((UInt8.ofNat (x / 2 ^ (24 - k % 4 * 8))).toNat : Int) := by rw [ofNat_int, cast_div]
      have hst := rowV_stored HR.out k (.int .u8 ((UInt8.ofNat (x / 2 ^ (24 - k % 4 * 8))).toNat : Int))
      rw [HS.out, ← hv] at hst
      have hbl : Below G w (wr.setCell ⟨G, k, none⟩ (.int .u8 ((x : Int) / 2 ^ (24 - k % 4 * 8) % 256))) := HB.out.setCell (p := ⟨G, k, none⟩) (Nat.le_refl _) _
      have HF := Lib.hid (And.intro hst hbl)
      clear hst hbl hv c1 c2 f2 e1 e2 e3 e4
      go_roundw
      case rel => exact ⟨k + 1, by omega, by go_num, Lib.hid HF.out.1, Lib.hid HF.out.2⟩
      case measure => simp [intOf]; omega
    · obtain rfl : k = 32 := by omega
      have hm := mixO_end (Sha.out H) HO.out
      have hc := run_convert_bytes_back (P := Tryd.prog) wr 45 9 5 ⟨G, 0, none⟩ 32 (Sha.out H) Tryd.underlying45 Tryd.underlying5 Tryd.underlying9 (fun j hj => by
        have hadd : (⟨G, 0, none⟩ : Addr).add j = ⟨G, j, none⟩ := by unfold Addr.add; split <;> simp_all
        rw [hadd, rowV_cell HR.out, hm]
        unfold valB
        rw [List.getElem?_map, List.getElem?_eq_getElem hj]; rfl)
      rw [HO.out] at hc
      clear hm
      go_wp2_with fail
      go_ret
      exact ⟨rfl, by rw [hG]; exact HB.out⟩
end Go.Proofs.YtjdjajjogpmdaaaDoor
