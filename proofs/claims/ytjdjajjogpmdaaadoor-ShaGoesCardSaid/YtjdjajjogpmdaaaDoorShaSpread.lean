/-
  Layer 3: what spread does.
-/
import Derived.Test.YtjdjajjogpmdaaaDoorShaRow
import Derived.BigRegion
namespace Go.Proofs.YtjdjajjogpmdaaaDoor
open Go.RowKit

theorem s0_int (x : Nat) (hx : x < 4294967296) : bits .xor .u32 (bits .xor .u32 (Sha.rot 7 x : Int) (Sha.rot 18 x : Int)) ((x : Int) / 8) = (Sha.s0 x : Int) := by
  have h1 := Sha.rot_lt 7 x hx
  have h2 := Sha.rot_lt 18 x hx
  rw [xor_32 _ _ h1 h2, show (x : Int) / 8 = ((x / 8 : Nat) : Int) by omega, xor_32 _ _ (Sha.xor_lt h1 h2) (by omega)]
  rfl
theorem s1_int (x : Nat) (hx : x < 4294967296) : bits .xor .u32 (bits .xor .u32 (Sha.rot 17 x : Int) (Sha.rot 19 x : Int)) ((x : Int) / 1024) = (Sha.s1 x : Int) := by
  have h1 := Sha.rot_lt 17 x hx
  have h2 := Sha.rot_lt 19 x hx
  rw [xor_32 _ _ h1 h2, show (x : Int) / 1024 = ((x / 1024 : Nat) : Int) by omega, xor_32 _ _ (Sha.xor_lt h1 h2) (by omega)]
  rfl

set_option maxRecDepth 100000 in
set_option maxHeartbeats 800000 in
theorem spread_any (H B : List Nat) (n g : Nat) (w : World) (hH : H.length = 8) (hB : B.length = 64) (hW : Sha.Ws B) (hr : RowV w g 41 (digL H B n)) :
    Calls Tryd.prog 23 #[.pointer (some ⟨g, 8, none⟩)] w fun e w' => e = .returned (.tuple #[]) ∧ RowV w' g 41 (digL H (Sha.sched (B.take 16)) n) ∧ Below g w w' := by
  have HH := Lib.hid (And.intro hH (And.intro hB (And.intro hW hr))); clear hH hB hW hr
  go_enter Tryd.func23, Tryd.ntmps23
  go_wp2
  go_loopw [2, 3, 4, 5, 6] (fun t _ _ _ _ wr => ∃ k : Nat, k ≤ 48 ∧ t = .int .i64 ((k : Int) + 16) ∧ Hid (RowV wr g 41 (digL H (mixB B k) n)) ∧ Hid (Below g w wr))
    (fun t _ _ _ _ _ => 64 - (intOf t).toNat)
  case atStart => exact ⟨0, by omega, rfl, Lib.hid (by rw [mixB_zero]; exact HH.out.2.2.2), Lib.hid (Below.refl _ _)⟩
  case round =>
    obtain ⟨k, hk, rfl, HR, HB⟩ := hrel
    by_cases hlt : k < 48
    · have hlen := mixB_len B k HH.out.2.1 hk
      have hws := mixB_ws B k HH.out.2.2.1
      have HS := Lib.hid (mixB_succ B k HH.out.2.1 hlt)
      have cel : ∀ i, i < 64 → wr.cell? ⟨g, 8 + i, none⟩ = some (.int .u32 ((mixB B k).getD i 0 : Int)) := fun i hi => by
        rw [rowV_cell HR.out, digL_block H _ n i HH.out.1 hlen hi]
      have c0 := cel k (by omega)
      have c1 := cel (k + 1) (by omega)
      have c9 := cel (k + 9) (by omega)
      have c14 := cel (k + 14) (by omega)
      have c16 := cel (k + 16) (by omega)
      have f16 := rowV_frozen HR.out (8 + (k + 16))
      have b0 := getD_lt hws k
      have b1 := getD_lt hws (k + 1)
      have b9 := getD_lt hws (k + 9)
      have b14 := getD_lt hws (k + 14)
      have HX := Lib.hid (And.intro hlen hws)
      clear hlen hws cel
      generalize (mixB B k).getD k 0 = a0 at *
      generalize (mixB B k).getD (k + 1) 0 = a1 at *
      generalize (mixB B k).getD (k + 9) 0 = a9 at *
      generalize (mixB B k).getD (k + 14) 0 = a14 at *
      have e15 : ((k : Int) + 16 - 15).toNat = k + 1 := by omega
      have e2 : ((k : Int) + 16 - 2).toNat = k + 14 := by omega
      have e16 : ((k : Int) + 16 - 16).toNat = k := by omega
      have e7 : ((k : Int) + 16 - 7).toNat = k + 9 := by omega
      have e0 : ((k : Int) + 16).toNat = k + 16 := by omega
      go_wp2_with fail
      go_quiet (fail)
      go_wp2_with fail
      refine (rotr7 a1 _ b1).mono ?_
      rintro e _ ⟨rfl, rfl⟩
      have r7 := Sha.rot_lt 7 a1 b1
      have q0 := s0_int a1 b1
      generalize hR7 : (Sha.rot 7 a1 : Int) = R7 at q0 ⊢
      go_wp2_with fail
      refine (rotr18 a1 _ b1).mono ?_
      rintro e _ ⟨rfl, rfl⟩
      generalize hR18 : (Sha.rot 18 a1 : Int) = R18 at q0 ⊢
      clear hR7 hR18 r7
      go_wp2_with fail
      refine (rotr17 a14 _ b14).mono ?_
      rintro e _ ⟨rfl, rfl⟩
      have q1 := s1_int a14 b14
      generalize hR17 : (Sha.rot 17 a14 : Int) = R17 at q1 ⊢
      go_wp2_with fail
      refine (rotr19 a14 _ b14).mono ?_
      rintro e _ ⟨rfl, rfl⟩
      generalize hR19 : (Sha.rot 19 a14 : Int) = R19 at q1 ⊢
      clear hR17 hR19
      generalize hwq : wr.drewN nq = wq
      have HR2 : Hid (RowV wq g 41 (digL H (mixB B k) n)) := Lib.hid (by rw [← hwq]; exact HR.out)
      have HB2 : Hid (Below g w wq) := Lib.hid (by rw [← hwq]; exact below_drewN HB.out nq)
      rw [show wr.cell? = wq.cell? by rw [← hwq]; rfl] at c0 c9 c16
      rw [show wr.frozen? = wq.frozen? by rw [← hwq]; rfl] at f16
      clear hwq c1 c14 HR HB
      go_wp2_with fail
      go_region
      go_wp2_with fail
      have hv : ((a0 : Int) + (Sha.s0 a1 : Int) + (a9 : Int) + (Sha.s1 a14 : Int)) % 4294967296 = ((((((a0 + Sha.s0 a1) % 4294967296 + a9) % 4294967296 + Sha.s1 a14) % 4294967296) : Nat) : Int) := by omega
      have hst := rowV_stored HR2.out (8 + (k + 16)) (.int .u32 ((((((a0 + Sha.s0 a1) % 4294967296 + a9) % 4294967296 + Sha.s1 a14) % 4294967296) : Nat) : Int))
      rw [digL_setBlock H _ n (k + 16) _ HH.out.1 HX.out.1 (by omega), HS.out, ← hv] at hst
      have hbl : Below g w (wq.setCell ⟨g, 8 + (k + 16), none⟩ (.int .u32 (((a0 : Int) + (Sha.s0 a1 : Int) + (a9 : Int) + (Sha.s1 a14 : Int)) % 4294967296))).drew := (HB2.out.setCell (p := ⟨g, 8 + (k + 16), none⟩) (Nat.le_refl _) _).drew
      have HF := Lib.hid (And.intro hst hbl)
      clear hst hbl hv
      go_roundw
      case rel => exact ⟨k + 1, by omega, by go_num, Lib.hid HF.out.1, Lib.hid HF.out.2⟩
      case measure => simp [intOf]; omega
    · obtain rfl : k = 48 := by omega
      have HE := Lib.hid (mixB_end B HH.out.2.1)
      go_wp2
      go_end0
      exact ⟨rfl, by rw [← HE.out]; exact HR.out, HB.out⟩
end Go.Proofs.YtjdjajjogpmdaaaDoor
