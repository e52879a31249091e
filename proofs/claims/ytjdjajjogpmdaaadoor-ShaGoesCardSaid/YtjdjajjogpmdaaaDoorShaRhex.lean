/-
  Layer 3: what the document's Hex answers.
-/
import Derived.Test.YtjdjajjogpmdaaaDoorShaHex
namespace Go.Proofs.YtjdjajjogpmdaaaDoor
open Go.RowKit

set_option maxRecDepth 100000 in
set_option maxHeartbeats 800000 in
theorem rhex_any (s : ByteArray) (w : World) (hs : s.size ≤ 1048576) :
    Calls Tryd.prog 11 #[.string s] w fun e w' => e = .returned (.string ⟨(Sha.hex s.data.toList).toArray⟩) ∧ Below w.heap.size w w' := by
  obtain ⟨i0, hi, hz0, hz1, hz2⟩ := info_parts Tryd.info5
  go_enter Tryd.func11, Tryd.ntmps11
  go_wp2_with fail
  go_loopw [3, 4] (fun v i wr => ∃ k : Nat, k ≤ s.size ∧ i = .int .i64 k ∧ OwnsB wr w.heap.size 5 v (hexK s k) ∧ Below w.heap.size w wr)
    (fun _ i _ => s.size - (intOf i).toNat)
  case atStart => exact ⟨0, by omega, rfl, ownsB_nil _ _ _, Below.refl _ _⟩
  case round =>
    obtain ⟨k, hk, rfl, hown, hb⟩ := hrel
    have hsz := hb.size
    by_cases hlt : k < s.size
    · have i1 : (k : Int) < (s.size : Int) := by omega
      have i0' : (0 : Int) ≤ (k : Int) := by omega
      have hx := (s[k]).toNat_lt
      have g1 := digits_get (s[k].toNat / 16) (by omega)
      have g2 := digits_get (s[k].toNat % 16) (by omega)
      have t1 : (s[k].toNat : Int) / 16 < 16 := by omega
      have t2 : (s[k].toNat : Int) % 16 < 16 := by omega
      have HS := Lib.hid (hexK_succ s k hlt)
      have hlen := hexK_len s k hk
      have HL := Lib.hid hlen; clear hlen
      have e1 : ((s[k].toNat : Int) / 16).toNat = s[k].toNat / 16 := by omega
      have e2 : ((s[k].toNat : Int) % 16).toNat = s[k].toNat % 16 := by omega
      have q1 : (s[k].toNat : Int).tdiv 16 = (s[k].toNat : Int) / 16 := Int.tdiv_eq_ediv_of_nonneg (by omega)
      have q2 : (s[k].toNat : Int).tmod 16 = (s[k].toNat : Int) % 16 := Int.tmod_eq_emod_of_nonneg (by omega)
      have v1 : IntKind.u8.wrap ((s[k].toNat : Int) / 16) = (s[k].toNat : Int) / 16 := IntWalk.u8_in _ (by omega)
      have v2 : IntKind.u8.wrap ((s[k].toNat : Int) % 16) = (s[k].toNat : Int) % 16 := IntWalk.u8_in _ (by omega)
      unfold digitsB at g1 g2
      go_wp2_with fail
      go_region_held3 (fun w' => wr.heap.size ≤ w'.heap.size)
        (first
          | (simp; done)
          | (have := hgrow.size; simp at this; omega))
        (first
          | (refine step_append_lies _ (by rfl) _ _ _ (by rfl) w.heap.size 5 i0 (.int .u8 0) 1 1 Tryd.underlying45 hi hz0 hz1 hz2 rfl (by omega) u3 _ _ (by rfl) ((ownsB_row0 hown _).drew)
              ⟨wr.heap.size, 0, none⟩ 2 2 [_, _] (by rfl) (by rfl) (World.news_of_block (cs := #[_, _]) (t := 5) (fr := (0, 0)) (heap_alloc_new wr _)) two_cells
              (by omega) (by rw [HL.out]; unfold maxLen; omega) (by rw [HL.out]; omega) (by simp; omega) (wr.heap.size + 1) (by simp) ?_; intro gg cap w1 hown1 hgrow hat hlt1))
      all_goals
        have ho := ownsB_two _ _ hown1
        rw [← HS.out] at ho
        have hb1 : Below w.heap.size w w1 := below_grown (wr := wr.drew) (hb.trans (below_drewN (Below.refl _ _) 1)) hsz hown hgrow
        have HF := Lib.hid (And.intro ho hb1)
        clear ho hb1 hown1 hgrow hat hlt1 hown hb
        go_wp2_with fail
        go_roundw
        case rel => exact ⟨k + 1, by omega, by go_num, HF.out.1, HF.out.2⟩
        case measure => simp [intOf]; omega
    · obtain rfl : k = s.size := by omega
      rw [hexK_all] at hown
      have hconv := ownsB_conv (P := Tryd.prog) (src := 45) (dst := 9) hown Tryd.underlying45 Tryd.underlying5 Tryd.underlying9
      have HF := Lib.hid hb
      clear hown hb
      go_wp2_with fail
      go_ret
      exact ⟨rfl, HF.out⟩

end Go.Proofs.YtjdjajjogpmdaaaDoor
