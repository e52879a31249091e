/-
  Layer 13: tokens joined, the document's.
-/
import Derived.Test.YtmpfnokddpbgcaaDoorZLexText
import Derived.Test.YtmpfnokddpbgcaaDoorZLexAll
namespace Go.Proofs.YtmpfnokddpbgcaaDoor
open Go.RowKit
namespace Lx
theorem join_snoc (t : T) : ∀ l : List T, l ≠ [] → join (l ++ [t]) = join l ++ 32 :: textL t
  | [], h => absurd rfl h
  | [u], _ => rfl
  | u :: v :: l, _ => by
    show textL u ++ 32 :: join (v :: l ++ [t]) = (textL u ++ 32 :: join (v :: l)) ++ 32 :: textL t
    rw [join_snoc t (v :: l) (by simp)]; simp
instance (L : List T) : Decidable (∀ t ∈ L, right t) := inferInstance
def joinS (L : List T) : ByteArray × Int := if ∀ t ∈ L, right t then (mk (join L), 0) else (Vl.mt, 2)
theorem mk_app (a b : List UInt8) : mk a ++ mk b = mk (a ++ b) := by apply Sl.ba_ext; rw [ByteArray.data_append]; simp
theorem joinS_not {L : List T} {k : Nat} (hk : k < L.length) (h : ¬ right L[k]) : joinS L = (Vl.mt, 2) := if_neg fun ha => h (ha _ (List.getElem_mem hk))
def RightTo (L : List T) (k : Nat) : Prop := ∀ t ∈ L.take k, right t
theorem rightTo_next {L : List T} {k : Nat} (h : RightTo L k) (hk : k < L.length) (hr : right L[k]) : RightTo L (k + 1) := by
  intro t ht
  rw [List.take_succ_eq_append_getElem hk] at ht
  rcases List.mem_append.1 ht with ht | ht
  · exact h t ht
  · simp only [List.mem_singleton] at ht; subst ht; exact hr
theorem joinS_end {L : List T} {k : Nat} (h : RightTo L k) (hk : ¬ k < L.length) : joinS L = (mk (join (L.take k)), 0) := by
  unfold RightTo at h
  rw [List.take_of_length_le (by omega)] at h ⊢
  exact if_pos h
theorem join_next0 {L : List T} (hk : 0 < L.length) : mk (join (L.take 0)) ++ mk (textL L[0]) = mk (join (L.take 1)) := by
  rw [List.take_succ_eq_append_getElem hk, mk_app]; rfl
theorem join_next {L : List T} {k : Nat} (h0 : 0 < k) (hk : k < L.length) : mk (join (L.take k)) ++ ⟨#[32]⟩ ++ mk (textL L[k]) = mk (join (L.take (k + 1))) := by
  rw [List.take_succ_eq_append_getElem hk, join_snoc _ _ (by intro h; have := congrArg List.length h; rw [List.length_take, Nat.min_eq_left (by omega)] at this; simp at this; omega)]
  rw [show (⟨#[32]⟩ : ByteArray) = mk [32] from rfl, mk_app, mk_app]; simp
theorem textL_size {t : T} (h : right t) (hn : t.n ≤ 9223372036854775807) : (textL t).length ≤ 85 := by
  obtain ⟨k, s, n, a⟩ := t
  have hl : s.data.toList.length = s.size := Array.length_toList ..
  rcases h with ⟨rfl, _, _, _, h⟩ | ⟨rfl, h, _⟩ | ⟨rfl, _, h⟩ | ⟨rfl, h, _⟩
  · show s.data.toList.length ≤ 85
    have : s.size ≤ 16 := h
    omega
  · have h0 : 0 ≤ n := h
    have h1 : n ≤ 9223372036854775807 := hn
    have := Lib.itoa_length_le n (by omega) h1
    show (Lib.itoa n).length ≤ 85
    omega
  · show (Vl.quoteL s.data.toList).length ≤ 85
    have h40 : s.size ≤ 40 := h.1
    have := Vl.esc_len s.data.toList
    unfold Vl.quoteL
    simp only [List.length_cons, List.length_append, List.length_nil]
    omega
  · have hm : ∀ m ∈ marks, m.length ≤ 85 := by decide
    exact hm _ h
theorem join_size (L : List T) (hn : ∀ t ∈ L, t.n ≤ 9223372036854775807) : ∀ k : Nat, RightTo L k → (mk (join (L.take k))).size ≤ 86 * k
  | 0, _ => by simp [join, ByteArray.size]
  | k + 1, h => by
    have hk : RightTo L k := fun t ht => h t (List.take_subset_take_left L (Nat.le_succ k) ht)
    have ih := join_size L hn k hk
    by_cases hlt : k < L.length
    · have hr : right L[k] := h _ (by rw [List.take_succ_eq_append_getElem hlt]; exact List.mem_append_right _ (List.mem_singleton.2 rfl))
      have ht := textL_size hr (hn _ (List.getElem_mem hlt))
      have hz : ∀ l : List UInt8, (mk l).size = l.length := fun l => List.size_toArray
      rw [hz] at ih ⊢
      by_cases h0 : k = 0
      · subst h0
        have := congrArg ByteArray.size (join_next0 hlt)
        rw [ByteArray.size_append, hz, hz, hz] at this
        have h00 : (join (List.take 0 L)).length = 0 := rfl
        show (join (List.take 1 L)).length ≤ 86
        omega
      · have := congrArg ByteArray.size (join_next (by omega) hlt)
        have h1 : (⟨#[32]⟩ : ByteArray).size = 1 := rfl
        rw [ByteArray.size_append, ByteArray.size_append, h1, hz (join (L.take k)), hz (textL L[k]), hz (join (L.take (k + 1)))] at this
        omega
    · rw [List.take_of_length_le (by omega)] at ih ⊢
      omega
end Lx
theorem readsT13_at {w : World} {a : Option Addr} {L : List Lx.T} (h : ReadsT13 w a L) (k : Nat) (hk : k < L.length) : ∃ b off, a = some ⟨b, off, none⟩ ∧ w.cell? ⟨b, off + k * 4, none⟩ = some (.int .i64 L[k].kind) ∧ w.cell? ⟨b, off + k * 4 + 1, none⟩ = some (.string L[k].s) ∧ w.cell? ⟨b, off + k * 4 + 2, none⟩ = some (.int .i64 L[k].n) ∧ w.cell? ⟨b, off + k * 4 + 3, none⟩ = some (.int .i64 L[k].spot) := h k hk
set_option maxRecDepth 100000 in
set_option maxHeartbeats 6400000 in
theorem rJoin13_any (a : Option Addr) (L : List Lx.T) (c : Nat) (w : World) (hr : ReadsT13 w a L) (hL : L.length ≤ 100000000000000000) (hS : ∀ t ∈ L, t.s.size ≤ maxLen ∧ t.n ≤ 9223372036854775807) :
    Calls Tryd.prog 14 #[.slice a L.length c] w fun e w' => e = .returned (.tuple #[.string (Lx.joinS L).1, .int .i64 (Lx.joinS L).2]) ∧ Below w.heap.size w w' := by
  have hZ := Lx.join_size L fun t ht => (hS t ht).2
  go_enter Tryd.func14, Tryd.ntmps14
  go_wp2_with fail
  go_loopw [4, 5] (fun o i wr => ∃ (k : Nat) (X : ByteArray), k ≤ L.length ∧ i = .int .i64 (k : Int) ∧ o = .string X ∧ Hid (X = Lx.mk (Lx.join (L.take k)) ∧ Lx.RightTo L k) ∧ Hid (Below w.heap.size w wr)) (fun _ i _ => L.length - (intOf i).toNat)
  case atStart => exact ⟨0, _, Nat.zero_le _, rfl, rfl, Lib.hid ⟨rfl, by intro t ht; simp at ht⟩, Lib.hid (Below.refl _ _)⟩
  case round =>
    obtain ⟨k, X, hk, rfl, rfl, HX, hb⟩ := hrel
    have hXs : X.size ≤ 86 * k := by rw [HX.out.1]; exact hZ k HX.out.2
    by_cases hlt : k < L.length
    · obtain ⟨b, off, rfl, c0, c1, c2, c3⟩ := readsT13_at (readsT13_below hr hb.out) k hlt
      have hf := hS _ (List.getElem_mem hlt)
      have cT := fun wx => rText13_any L[k] wx hf.1 hf.2
      by_cases hx : Lx.right L[k]
      · rw [show Lx.textT L[k] = (Lx.mk (Lx.textL L[k]), 0) from if_pos hx] at cT
        dsimp only at cT
        have hN := Lx.rightTo_next HX.out.2 hlt hx
        have hTs : (Lx.mk (Lx.textL L[k])).size ≤ 85 := Nat.le_trans (Nat.le_of_eq List.size_toArray) (Lx.textL_size hx hf.2)
        have h32 : (⟨#[32]⟩ : ByteArray).size = 1 := rfl
        have hX32 : (X ++ ⟨#[32]⟩).size = X.size + 1 := by rw [ByteArray.size_append, h32]
        by_cases h0 : k = 0
        · subst h0
          have hj := Lx.join_next0 hlt
          have HN := Lib.hid (And.intro hj hN)
          generalize Lx.mk (Lx.textL L[0]) = TX at *
          generalize L[0] = x at *
          obtain ⟨tk, ts, tn, ta⟩ := x
          have HC := Lib.hid cT
          simp only [Nat.zero_mul, Nat.add_zero] at c0 c1 c2 c3
          clear cT hf hx hj hN
          go_wp2_with fail
          refine (HC.out _).mono ?_
          rintro e w2 ⟨rfl, hb2⟩
          have HB := Lib.hid (hb.out.trans (hb2.mono hb.out.size))
          clear hb2
          go_wp2_with fail
          go_roundw
          case rel => exact ⟨1, _, by omega, by go_num, rfl, Lib.hid ⟨by rw [HX.out.1]; exact HN.out.1, HN.out.2⟩, HB⟩
          case measure => simp [intOf]; omega
        · have hj := Lx.join_next (by omega) hlt
          have HN := Lib.hid (And.intro hj hN)
          generalize Lx.mk (Lx.textL L[k]) = TX at *
          generalize L[k] = x at *
          obtain ⟨tk, ts, tn, ta⟩ := x
          have HC := Lib.hid cT
          have hpos : decide ((k : Int) > 0) = true := decide_eq_true (by omega)
          have hpn : 0 < k := by omega
          clear cT hf hx hj hN
          go_wp2_with fail
          refine (HC.out _).mono ?_
          rintro e w2 ⟨rfl, hb2⟩
          have HB := Lib.hid (hb.out.trans (hb2.mono hb.out.size))
          clear hb2
          go_wp2_with fail
          go_roundw
          case rel => exact ⟨k + 1, _, by omega, by go_num, rfl, Lib.hid ⟨by rw [HX.out.1]; exact HN.out.1, HN.out.2⟩, HB⟩
          case measure => simp [intOf]; omega
      · rw [show Lx.textT L[k] = (Vl.mt, 2) from if_neg hx] at cT
        dsimp only at cT
        have HE := Lib.hid (Lx.joinS_not hlt hx)
        generalize L[k] = x at *
        obtain ⟨tk, ts, tn, ta⟩ := x
        have HC := Lib.hid cT
        clear cT hf hx
        go_wp2_with fail
        refine (HC.out _).mono ?_
        rintro e w2 ⟨rfl, hb2⟩
        have HB := Lib.hid (hb.out.trans (hb2.mono hb.out.size))
        clear hb2
        go_wp2_with fail
        go_ret2
        exact ⟨by rw [HE.out]; rfl, HB.out⟩
    · have HF := Lib.hid (Lx.joinS_end HX.out.2 hlt)
      go_wp2_with fail
      go_ret2
      exact ⟨by rw [HF.out, HX.out.1]; rfl, hb.out⟩
end Go.Proofs.YtmpfnokddpbgcaaDoor
