/-
  Layer 11: chunks joined (the document's).
-/
import Derived.Test.YtlhhecomjhfhjaaChkRef
import Derived.Test.YtlhhecomjhfhjaaChkJoined
import Derived.BigQuiet
namespace Go.Proofs.Ytlhhecomjhfhjaa
open Go.RowKit
set_option maxRecDepth 100000 in
set_option maxHeartbeats 4000000 in
theorem rjoin11_any (p : ByteArray) (hp : p.size ≤ 1000000000) (a : Option Addr) (L : List (ByteArray × ByteArray)) (c : Nat) (w : World) (hr : ReadsP w a L) (hL : L.length ≤ 900000) (hS : ∀ x ∈ L, x.2.size ≤ 80000) :
    Calls Try.prog 16 #[.string p, .slice a L.length c] w fun e w' => e = .returned (.tuple #[.string (Ck.join p L).1, .int .i64 (Ck.join p L).2]) ∧ Below w.heap.size w w' := by
  have cR := fun w => rright11_any p w
  generalize hRES : Ck.join p L = RES
  unfold Ck.join at hRES
  cases hrr : Ck.rightB p with
  | false =>
    rw [hrr] at cR hRES
    rw [if_neg (by decide)] at hRES
    subst hRES
    have H := Lib.hid cR
    clear cR hr
    go_enter Try.func16, Try.ntmps16
    go_wp2_with (go_at_call 21; refine (H.out _).mono ?_; rintro e w1 ⟨rfl, hb⟩; have H1 := Lib.hid hb; clear hb)
    refine bodyPost_ret (results_tmp2 rfl _ _ _) rfl ?_
    exact ⟨rfl, H1.out⟩
  | true =>
    rw [hrr] at cR hRES
    rw [if_pos rfl] at hRES
    by_cases h0 : L.length = 0
    · rw [if_pos h0] at hRES
      subst hRES
      have t0 : (((L.length : Nat) : Int) == 0) = true := by rw [h0]; rfl
      have H := Lib.hid cR
      clear cR hr
      go_enter Try.func16, Try.ntmps16
      go_wp2_with (go_at_call 21; refine (H.out _).mono ?_; rintro e w1 ⟨rfl, hb⟩; have H1 := Lib.hid hb; clear hb)
      refine bodyPost_ret (results_tmp2 rfl _ _ _) rfl ?_
      exact ⟨rfl, H1.out⟩
    · rw [if_neg h0] at hRES
      have t0 : (((L.length : Nat) : Int) == 0) = false := beq_eq_false_iff_ne.2 (by omega)
      by_cases h10 : 10 < L.length
      · rw [if_pos h10] at hRES
        subst hRES
        have t1 : decide ((10 : Int) < (L.length : Int)) = true := decide_eq_true (by omega)
        have H := Lib.hid cR
        clear cR hr
        go_enter Try.func16, Try.ntmps16
        go_wp2_with (go_at_call 21; refine (H.out _).mono ?_; rintro e w1 ⟨rfl, hb⟩; have H1 := Lib.hid hb; clear hb)
        refine bodyPost_ret (results_tmp2 rfl _ _ _) rfl ?_
        exact ⟨rfl, H1.out⟩
      · rw [if_neg h10] at hRES
        have t1 : decide ((10 : Int) < (L.length : Int)) = false := decide_eq_false (by omega)
        have hjk : ∀ k, (Ck.joined (L.take k)).size ≤ 800000 := fun k => by
          have h1 := Ck.joined_size (L.take k) 80000 (fun x hx => hS x (List.mem_of_mem_take hx))
          have h2 : (L.take k).length ≤ 10 := by rw [List.length_take]; omega
          have h3 := Nat.mul_le_mul_right 80000 h2
          omega
        have cP := fun J (hJ : J.size ≤ 900000) w => rpairs11_any p J hp hJ w
        have H := Lib.hid (And.intro cR (And.intro cP (And.intro hr hRES)))
        clear cR cP hr hRES
        go_enter Try.func16, Try.ntmps16
        go_wp2_with (go_at_call 21; refine (H.out.1 _).mono ?_; rintro e w1 ⟨rfl, hb⟩; have H1 := Lib.hid hb; clear hb)
        go_loopw [6, 7] (fun s i wr => ∃ (k : Nat) (J : ByteArray), k ≤ L.length ∧ i = .int .i64 (k : Int) ∧ s = .string J ∧ Hid (J = Ck.joined (L.take k) ∧ Below w.heap.size w wr)) (fun _ i _ => L.length - (RowKit.intOf i).toNat)
        case atStart => exact ⟨0, _, Nat.zero_le _, rfl, rfl, Lib.hid ⟨rfl, H1.out⟩⟩
        case round =>
          obtain ⟨k, J, hk, rfl, rfl, HI⟩ := hrel
          have hJs : J.size ≤ 800000 := by rw [HI.out.1]; exact hjk k
          by_cases hlt : k < L.length
          · obtain ⟨ab, off, rfl, c0, c1⟩ := (readsP_below H.out.2.2.1 HI.out.2) k hlt
            have hnx := joined_next L k hlt
            have hvs := hS _ (List.getElem_mem hlt)
            generalize L[k].1 = x1 at *
            generalize L[k].2 = x2 at *
            have HN := Lib.hid hnx
            clear hnx
            go_wp2_with fail
            go_roundw
            case rel => exact ⟨k + 1, _, by omega, by go_num, rfl, Lib.hid ⟨by rw [HN.out, HI.out.1], HI.out.2⟩⟩
            case measure => simp [RowKit.intOf]; omega
          · obtain rfl : k = L.length := by omega
            have hJ : J = Ck.joined L := by have h := HI.out.1; rw [List.take_length] at h; exact h
            have hres := H.out.2.2.2
            rw [← hJ] at hres
            clear hJ
            by_cases hbig : 1400 < J.size
            · rw [if_pos hbig] at hres
              have t2 : decide ((1400 : Int) < (J.size : Int)) = true := decide_eq_true (by omega)
              subst hres
              go_wp2_with fail
              refine bodyPost_ret (results_tmp2 rfl _ _ _) rfl ?_
              exact ⟨rfl, HI.out.2⟩
            · rw [if_neg hbig] at hres
              have t2 : decide ((1400 : Int) < (J.size : Int)) = false := decide_eq_false (by omega)
              have cP := H.out.2.1 J (by omega)
              have hcl := Ck.cnt_le (n := J.size) (m := 10000) (by omega) (by omega)
              rw [← Ck.chunks_len p J] at hcl
              generalize Ck.chunks p J = M at *
              by_cases hlen : M.length = L.length
              · have hq : (((M.length : Nat) : Int) != ((L.length : Nat) : Int)) = false := by rw [hlen]; simp
                have HP := Lib.hid (And.intro cP (And.intro hres hlen))
                clear cP hres hlen
                go_wp2_with (go_at_call 18; refine (HP.out.1 _).mono ?_; rintro e w5 ⟨v, rfl, ho, hb⟩; obtain ⟨b5, c5, rfl, hr5, -⟩ := owns_readsP (show w5.ownsRow _ 46 2 v M.length (pairsC M) from ho) rfl; have H5 := Lib.hid (And.intro hr5 (HI.out.2.trans (hb.mono HI.out.2.size))); clear ho hb hr5)
                go_loopw [9] (fun i wr => ∃ k : Nat, k ≤ L.length ∧ i = .int .i64 (k : Int) ∧ Hid (Below w5.heap.size w5 wr ∧ L.take k = M.take k)) (fun i _ => L.length - (RowKit.intOf i).toNat)
                case atStart => exact ⟨0, Nat.zero_le _, rfl, Lib.hid ⟨Below.refl _ _, rfl⟩⟩
                case round =>
                  obtain ⟨k, hk, rfl, HB⟩ := hrel
                  by_cases hlt : k < L.length
                  · have hlt2 : k < M.length := by rw [HP.out.2.2]; exact hlt
                    obtain ⟨ab, off, rfl, c0, c1⟩ := (readsP_below H.out.2.2.1 (H5.out.2.trans (HB.out.1.mono H5.out.2.size))) k hlt
                    obtain ⟨bb, of2, rfl, e0, e1⟩ := (readsP_below H5.out.1 HB.out.1) k hlt2
                    have hnext : L[k] = M[k] → L.take (k + 1) = M.take (k + 1) := fun h => by rw [List.take_succ_eq_append_getElem hlt, List.take_succ_eq_append_getElem hlt2, HB.out.2, h]
                    have hno : L[k] ≠ M[k] → RES = (⟨#[]⟩, 4) := fun h => by rw [← HP.out.2.1, if_neg (fun e => h (by subst e; rfl))]
                    generalize L[k] = x at *
                    generalize M[k] = y at *
                    obtain ⟨x1, x2⟩ := x
                    obtain ⟨y1, y2⟩ := y
                    dsimp only at c0 c1 e0 e1
                    have HC := Lib.hid (And.intro hnext hno)
                    clear hnext hno
                    by_cases g1 : x1 = y1
                    · subst g1
                      by_cases g2 : x2 = y2
                      · subst g2
                        go_wp2_with fail
                        go_quiet (fail)
                        go_wp2
                        go_roundw
                        case rel => exact ⟨k + 1, by omega, by go_num, Lib.hid ⟨below_drewN HB.out.1 _, HC.out.1 (by first | rfl | trivial)⟩⟩
                        case measure => simp [RowKit.intOf]; omega
                      · have g3 := str_neq g2
                        go_wp2_with fail
                        go_quiet (fail)
                        go_wp2
                        refine bodyPost_ret (results_tmp2 rfl _ _ _) rfl ?_
                        rw [HC.out.2 (fun e => g2 (Prod.mk.inj e).2)]
                        exact ⟨rfl, H5.out.2.trans ((below_drewN HB.out.1 _).mono H5.out.2.size)⟩
                    · have g3 := str_neq g1
                      go_wp2_with fail
                      go_quiet (fail)
                      go_wp2
                      refine bodyPost_ret (results_tmp2 rfl _ _ _) rfl ?_
                      rw [HC.out.2 (fun e => g1 (Prod.mk.inj e).1)]
                      exact ⟨rfl, H5.out.2.trans ((below_drewN HB.out.1 _).mono H5.out.2.size)⟩
                  · obtain rfl : k = L.length := by omega
                    have hfin : RES = (J, 0) := by
                      rw [← HP.out.2.1, if_pos]
                      have h2 := HB.out.2
                      rw [List.take_length, ← HP.out.2.2, List.take_length] at h2
                      exact h2.symm
                    go_wp2_with fail
                    refine bodyPost_ret (results_tmp2 rfl _ _ _) rfl ?_
                    rw [hfin]
                    exact ⟨rfl, H5.out.2.trans (HB.out.1.mono H5.out.2.size)⟩
              · have hq : (((M.length : Nat) : Int) != ((L.length : Nat) : Int)) = true := by simp; omega
                have hfin : RES = (⟨#[]⟩, 4) := by rw [← hres, if_neg (fun e => hlen (by rw [e]))]
                have HP := Lib.hid cP
                clear cP hres hlen
                subst hfin
                go_wp2_with (go_at_call 18; refine (HP.out _).mono ?_; rintro e w5 ⟨v, rfl, ho, hb⟩; obtain ⟨b5, c5, rfl, hr5, -⟩ := owns_readsP (show w5.ownsRow _ 46 2 v M.length (pairsC M) from ho) rfl; have H5 := Lib.hid (HI.out.2.trans (hb.mono HI.out.2.size)); clear ho hb hr5)
                refine bodyPost_ret (results_tmp2 rfl _ _ _) rfl ?_
                exact ⟨rfl, H5.out⟩
end Go.Proofs.Ytlhhecomjhfhjaa
