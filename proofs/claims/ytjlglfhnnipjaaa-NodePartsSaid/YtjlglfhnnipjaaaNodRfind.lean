/-
  Layer 9: the document's node: where a key stands.
-/
import Derived.Test.YtjlglfhnnipjaaaNodRef
import Derived.Test.YtjlglfhnnipjaaaNodeFind
import Derived.BigQuiet
namespace Go.Proofs.Ytjlglfhnnipjaaa
open Go.RowKit
/-- the last of the first k pairs whose key is not behind key -/
def Nd.lastK (L : List (ByteArray × ByteArray)) (key : ByteArray) : Nat → Int
  | 0 => -1
  | k + 1 => if Nd.le (L.getD k (⟨#[]⟩, ⟨#[]⟩)).1 key = true then (k : Int) else Nd.lastK L key k
theorem Nd.lastK_range (L : List (ByteArray × ByteArray)) (key : ByteArray) : ∀ k, -1 ≤ Nd.lastK L key k ∧ Nd.lastK L key k < k
  | 0 => ⟨Int.le_refl _, by show (-1 : Int) < 0; omega⟩
  | k + 1 => by
    have := Nd.lastK_range L key k
    unfold Nd.lastK
    split <;> omega
theorem Nd.lastK_upto {L : List (ByteArray × ByteArray)} (hr : Nd.rising L) (key : ByteArray) : ∀ k, k ≤ L.length → Nd.lastK L key k = ((min k (Nd.upto L key) : Nat) : Int) - 1
  | 0, _ => by rw [Nat.zero_min]; rfl
  | k + 1, hk => by
    have h := Nd.upto_iff hr key k (by omega)
    have hg : (L.getD k (⟨#[]⟩, ⟨#[]⟩)).1 = L[k].1 := by rw [List.getD_eq_getElem?_getD, List.getElem?_eq_getElem (show k < L.length by omega)]; rfl
    unfold Nd.lastK
    rw [hg]
    by_cases hle : Nd.le L[k].1 key = true
    · rw [if_pos hle]
      have := h.1 hle
      omega
    · rw [if_neg hle, Nd.lastK_upto hr key k (by omega)]
      have : ¬ k < Nd.upto L key := fun x => hle (h.2 x)
      omega
theorem Nd.lastK_find {L : List (ByteArray × ByteArray)} (hr : Nd.rising L) (key : ByteArray) : Nd.lastK L key L.length = Nd.findI L key := by
  rw [Nd.lastK_upto hr key _ (Nat.le_refl _)]
  have := Nd.upto_le L key
  unfold Nd.findI
  omega
def Nd.lastB (L : List (ByteArray × ByteArray)) (key : ByteArray) : Bool := decide (0 ≤ Nd.lastK L key L.length ∧ (L.getD (Nd.lastK L key L.length).toNat (⟨#[]⟩, ⟨#[]⟩)).1 = key)
set_option maxRecDepth 100000 in
set_option maxHeartbeats 3200000 in
theorem rfind9_any (leaf : Bool) (a : Option Addr) (L : List (ByteArray × ByteArray)) (c : Nat) (key : ByteArray) (w : World) (hr : ReadsP w a L) (hL : L.length ≤ 1000000) :
    Calls Try.prog 18 #[nodV leaf a L.length c, .string key] w fun e w' => e = .returned (.tuple #[.int .i64 (Nd.lastK L key L.length), .bool (Nd.lastB L key)]) ∧ Below w.heap.size w w' := by
  have hb : Below w.heap.size w (w.alloc (.cells #[.bool leaf, .slice a L.length c] 24)) := (Below.refl w.heap.size w).alloc (Nat.le_refl _) _
  have hrow := rowV_new w 24 (nodC leaf a L.length c)
  have H := Lib.hid (And.intro hr (And.intro hb hrow))
  clear hr hb hrow
  generalize hRB : Nd.lastB L key = RB
  have HR := Lib.hid hRB
  clear hRB
  go_enter Try.func18, Try.ntmps18
  go_wp2_with fail
  generalize hN : w.heap.size = N at *
  generalize hw1 : World.alloc w _ = w1 at *
  have HB := Lib.hid H.out.2.1
  have hNsz : N ≤ w1.heap.size := by rw [← hN]; exact HB.out.size
  go_loopw [6, 7] (fun at_ i wr => ∃ k : Nat, k ≤ L.length ∧ i = .int .i64 (k : Int) ∧ at_ = .int .i64 (Nd.lastK L key k) ∧ Hid (Below w1.heap.size w1 wr)) (fun _ i _ => L.length - (RowKit.intOf i).toNat)
  case atStart => exact ⟨0, Nat.zero_le _, rfl, rfl, Lib.hid (Below.refl _ _)⟩
  case round =>
    obtain ⟨k, hk, rfl, rfl, HI⟩ := hrel
    have hrN := rowV_below H.out.2.2 HI.out (rowV_lt H.out.2.2)
    have cN1 := rowV_cell hrN 1
    simp only [List.getElem?_cons_zero, List.getElem?_cons_succ] at cN1
    have hrd := readsP_below (readsP_below H.out.1 (by rw [hN]; exact HB.out)) HI.out
    by_cases hlt : k < L.length
    · obtain ⟨ab, off, rfl, c0, c1⟩ := hrd k hlt
      have hg : (L.getD k (⟨#[]⟩, ⟨#[]⟩)).1 = L[k].1 := by rw [List.getD_eq_getElem?_getD, List.getElem?_eq_getElem hlt]; rfl
      have hstep : Nd.lastK L key (k + 1) = if Nd.le L[k].1 key = true then (k : Int) else Nd.lastK L key k := by rw [← hg]; rfl
      generalize L[k].1 = x at *
      have HS := Lib.hid hstep
      clear hstep hg
      cases hle : Nd.le x key with
      | true =>
        have hle2 := hle
        unfold Nd.le at hle2
        go_wp2_with fail
        go_roundw
        case rel => exact ⟨k + 1, by omega, by go_num, by rw [HS.out, if_pos hle], HI⟩
        case measure => simp [RowKit.intOf]; omega
      | false =>
        have hle2 := hle
        unfold Nd.le at hle2
        go_wp2_with fail
        go_roundw
        case rel => exact ⟨k + 1, by omega, by go_num, by rw [HS.out, if_neg (by rw [hle]; decide)], HI⟩
        case measure => simp [RowKit.intOf]; omega
    · obtain rfl : k = L.length := by omega
      obtain ⟨g1, g2⟩ := Nd.lastK_range L key L.length
      have hRB : RB = decide (0 ≤ Nd.lastK L key L.length ∧ (L.getD (Nd.lastK L key L.length).toNat (⟨#[]⟩, ⟨#[]⟩)).1 = key) := HR.out.symm
      have hfin : Below w.heap.size w wr := by rw [hN]; exact HB.out.trans (HI.out.mono hNsz)
      have HD := Lib.hid hfin
      clear hfin
      by_cases h0 : Nd.lastK L key L.length < 0
      · rw [decide_eq_false (by omega)] at hRB
        subst hRB
        have hv : Nd.lastK L key L.length = -1 := by omega
        rw [hv]
        have HV := Lib.hid hv
        clear g1 g2 h0 hv
        go_wp2_with fail
        go_quiet (fail)
        go_wp2
        go_ret2
        rw [HV.out]
        exact ⟨rfl, below_drewN HD.out _⟩
      · obtain ⟨j, hj⟩ : ∃ j : Nat, Nd.lastK L key L.length = (j : Int) := ⟨(Nd.lastK L key L.length).toNat, by omega⟩
        rw [hj] at hRB g2 ⊢
        have hjl : j < L.length := by omega
        obtain ⟨ab, off, rfl, c0, c1⟩ := hrd j hjl
        have hg : (L.getD (j : Int).toNat (⟨#[]⟩, ⟨#[]⟩)).1 = L[j].1 := by rw [Int.toNat_natCast, List.getD_eq_getElem?_getD, List.getElem?_eq_getElem hjl]; rfl
        rw [hg] at hRB
        generalize L[j].1 = x at *
        clear hg g1 g2 h0
        have HJ := Lib.hid hj
        clear hj
        by_cases he : x = key
        · subst he
          rw [decide_eq_true ⟨by omega, rfl⟩] at hRB
          subst hRB
          go_wp2_with fail
          go_quiet (fail)
          go_wp2
          go_ret2
          rw [HJ.out]
          exact ⟨rfl, below_drewN HD.out _⟩
        · rw [decide_eq_false (fun h => he h.2)] at hRB
          subst hRB
          have hb := str_beq (str_neq he)
          go_wp2_with fail
          go_quiet (fail)
          go_wp2
          go_ret2
          rw [HJ.out]
          exact ⟨rfl, below_drewN HD.out _⟩
end Go.Proofs.Ytjlglfhnnipjaaa
