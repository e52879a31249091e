/-
  Layer 4: what the document's Read and Flush do.
-/
import Derived.Test.YtjefmmbkkdaeiaaRefOps
namespace Go.Proofs.Ytjefmmbkkdaeiaa
open Go.RowKit

set_option maxRecDepth 100000 in
set_option maxHeartbeats 1600000 in
theorem rread_any {w : World} {S : Nat → Prop} {q cb cw : Nat} {lb lw : Option Addr} {d : Dk.D} (h : RefIn w S q cb cw lb lw d) (i : Int) :
    Calls Try.prog 23 #[.pointer (some ⟨q, 0, none⟩), .int .i64 i] w fun e w' => e = .returned (.tuple #[.string (Dk.readS d i), .int .i64 (Dk.readE d i)]) ∧ w' = w := by
  have c4 := rhead_gone h.head
  have ct := there_any h.head i
  cases hg : d.gone with
  | true =>
    have e1 : Dk.readS d i = ByteArray.empty := by unfold Dk.readS; rw [if_pos hg]
    have e2 : Dk.readE d i = 7 := by unfold Dk.readE; rw [if_pos hg]
    rw [hg] at c4
    rw [e1, e2]
    clear ct h e1 e2 hg
    go_enter Try.func23, Try.ntmps23
    go_wp2_with fail
    go_ret2
    exact ⟨rfl, rfl⟩
  | false =>
    rw [hg] at c4
    by_cases hi : 0 ≤ i ∧ i < d.B.length
    · have e1 : Dk.readS d i = Dk.blk (Dk.over d.B d.W) i.toNat := by unfold Dk.readS; rw [if_neg (by rw [hg]; simp), if_pos hi]
      have e2 : Dk.readE d i = 0 := by unfold Dk.readE; rw [if_neg (by rw [hg]; simp), if_pos hi]
      rw [e1, e2]
      rw [decide_eq_true hi] at ct
      obtain ⟨j, rfl⟩ : ∃ j : Nat, i = (j : Int) := ⟨i.toNat, by omega⟩
      rw [show ((j : Int)).toNat = j from by omega]
      have hj : j < d.B.length := by omega
      have c0 := rhead_B h.head
      have c1 := rhead_W h.head
      have hWm := (listAt_len h.loose).1
      have hWm2 := (listAt_len h.loose).2
      have hlen : d.W.length ≤ maxLen := Nat.le_trans hWm hWm2
      unfold maxLen at hlen
      have jB : (j : Int) < (d.B.length : Int) := by omega
      obtain ⟨R, hR⟩ : ∃ R, Dk.blk (Dk.over d.B d.W) j = R := ⟨_, rfl⟩
      rw [hR]
      have HR := Lib.hid hR
      clear hR
      have HH := Lib.hid (And.intro ct (And.intro h hj)); clear ct h e1 e2 hg hi hWm hWm2 hj
      go_enter Try.func23, Try.ntmps23
      go_wp2_with fail
      refine HH.out.1.mono ?_
      rintro e w0 ⟨rfl, hw0⟩
      obtain rfl := hw0.symm
      clear hw0
      go_wp2_with fail
      go_loopw [6] (fun kv wr => ∃ n : Nat, n ≤ d.W.length ∧ kv = .int .i64 ((n : Int) - 1) ∧ Hid (wr = w) ∧ Hid (∀ m, n ≤ m → m < d.W.length → (d.W.getD m (0, ByteArray.empty)).1 ≠ j))
        (fun kv _ => (intOf kv + 1).toNat)
      case atStart => exact ⟨d.W.length, by omega, by go_num, Lib.hid rfl, Lib.hid (fun m h1 h2 => by omega)⟩
      case round =>
        obtain ⟨n, hn, rfl, HW, HN⟩ := hrel
        obtain rfl := HW.out
        by_cases h0 : n = 0
        · subst h0
          obtain ⟨g, hlb, cc, _⟩ := ref_block HH.out.2.1.blocks j HH.out.2.2
          have hE : Dk.blk (Dk.over d.B d.W) j = Dk.blk d.B j := Dk.overK_off d.B d.W d.W.length j fun m hm => HN.out m (Nat.zero_le _) hm
          subst hlb
          rw [← hE, HR.out] at cc
          clear hE HN
          go_wp2_with fail
          go_ret2
          exact ⟨rfl, rfl⟩
        · obtain ⟨m, rfl⟩ : ∃ m, n = m + 1 := ⟨n - 1, by omega⟩
          obtain ⟨g, hlw, ci, cs⟩ := ref_loose HH.out.2.1.loose m (by omega)
          subst hlw
          have hlast := fun hk => Dk.overK_last d.B d.W m d.W.length (by omega) hk
          have hoff := HN.out
          have hlw := (HH.out.2.1.ok.loose _ (Dk.getD_mem d.W m (0, ByteArray.empty) (by omega))).1
          have em : ((m + 1 : Nat) : Int) - 1 = (m : Int) := by omega
          rw [em]
          have m0 : (0 : Int) ≤ (m : Int) := by omega
          have mW : (m : Int) < (d.W.length : Int) := by omega
          by_cases hq : (d.W.getD m (0, ByteArray.empty)).1 = j
          · have hE : Dk.blk (Dk.over d.B d.W) j = (d.W.getD m (0, ByteArray.empty)).2 := by
              have := hlast hlw fun x h1 h2 => by rw [hq]; exact hoff x (by omega) h2
              rw [hq] at this; exact this
            rw [← hE, HR.out] at cs
            rw [hq] at ci
            have tq : ((j : Int) == (j : Int)) = true := beq_self_eq_true _
            clear hE hlast hoff hlw hq HN
            go_wp2_with fail
            go_ret2
            exact ⟨rfl, rfl⟩
          · have tq : (((d.W.getD m (0, ByteArray.empty)).1 : Int) == (j : Int)) = false := by rw [beq_eq_false_iff_ne]; omega
            have HN2 : Hid (∀ x, m ≤ x → x < d.W.length → (d.W.getD x (0, ByteArray.empty)).1 ≠ j) := Lib.hid fun x h1 h2 => by
              by_cases hx : x = m
              · subst hx; exact hq
              · exact hoff x (by omega) h2
            clear hlast hoff hlw hq HN
            generalize ((d.W.getD m (0, ByteArray.empty)).1 : Int) = u at *
            go_wp2_with fail
            go_roundw
            case rel => exact ⟨m, by omega, by go_num, Lib.hid trivial, HN2⟩
            case measure => simp [intOf]
    · have e1 : Dk.readS d i = ByteArray.empty := by unfold Dk.readS; rw [if_neg (by rw [hg]; simp), if_neg hi]
      have e2 : Dk.readE d i = 2 := by unfold Dk.readE; rw [if_neg (by rw [hg]; simp), if_neg hi]
      rw [e1, e2]
      rw [decide_eq_false hi] at ct
      have HH := Lib.hid ct; clear ct h e1 e2 hg hi
      go_enter Try.func23, Try.ntmps23
      go_wp2_with fail
      refine HH.out.mono ?_
      rintro e w0 ⟨rfl, hw0⟩
      obtain rfl := hw0.symm
      clear hw0
      go_wp2_with fail
      go_ret2
      exact ⟨rfl, rfl⟩
end Go.Proofs.Ytjefmmbkkdaeiaa
