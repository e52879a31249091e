/-
  Layer 1: SameTexts of two lists that are the same; the law OctetTexts, walked.
-/
import Derived.Test.YtjppicochahjoaaOctTxts
import Derived.Test.YtjppicochahjoaaOctLaws
namespace Go.Proofs.Ytjppicochahjoaa
open Go.RowKit

/-- the slice at a reads as the strings l -/
def ReadsS (w : World) (a : Option Addr) (l : List ByteArray) : Prop := ∀ i (h : i < l.length), ∃ b off, a = some ⟨b, off, none⟩ ∧ w.cell? ⟨b, off + i, none⟩ = some (.string (l[i]))
theorem ownsS_reads {w : World} {B E : Nat} {a : Option Addr} {n cap : Nat} {l : List ByteArray} (h : OwnsS w B E (.slice a n cap) l) : ReadsS w a l := by
  intro i hi
  rcases h.2 with ⟨h1, h2⟩ | ⟨g, cap', cur, h1, _⟩
  · omega
  · simp only [Value.slice.injEq] at h1
    obtain ⟨rfl, rfl, rfl⟩ := h1
    refine ⟨g, 0, rfl, ?_⟩
    unfold OwnsS at h
    rw [Nat.zero_add, h.cellAt i (by omega), List.getElem?_map, List.getElem?_eq_getElem hi]; rfl
theorem readsS_none (w : World) (a : Option Addr) : ReadsS w a [] := by intro i hi; simp at hi
theorem readsS_open {w : World} {a : Addr} {len cap : Nat} {ss : List ByteArray} (hl : len ≤ cap) (hm : cap ≤ maxLen) (hz : ss.length = cap)
    (hcell : ∀ i, i < ss.length → w.cell? (a.add i) = some (.string (ss.getD i ByteArray.empty))) (hws : ∀ s ∈ ss, s.size ≤ maxLen) :
    ∃ l : List ByteArray, l.length = len ∧ l.length ≤ maxLen ∧ (∀ x ∈ l, x.size ≤ maxLen) ∧ ReadsS w (some a) l := by
  refine ⟨ss.take len, by rw [List.length_take]; omega, by rw [List.length_take]; omega, fun x hx => hws x (List.mem_of_mem_take hx), ?_⟩
  intro i hi
  have hi2 : i < ss.length := by rw [List.length_take] at hi; omega
  obtain ⟨b, off, spot⟩ := a
  have hc := hcell i hi2
  have hs : spot = none := by
    have h0 := hcell 0 (by omega)
    simpa [Addr.add] using World.cell?_spot h0
  subst hs
  refine ⟨b, off, rfl, ?_⟩
  have e : (⟨b, off, none⟩ : Addr).add i = ⟨b, off + i, none⟩ := by unfold Addr.add; split <;> simp_all
  rw [e] at hc
  rw [hc, List.getElem_take]
  simp [List.getD, List.getElem?_eq_getElem hi2]
theorem ownsS_max {w : World} {B E : Nat} {v : Value} {l : List ByteArray} (h : OwnsS w B E v l) : l.length ≤ maxLen := by
  rcases h.2 with ⟨_, h2⟩ | ⟨_, cap, _, _, _, _, h2, h3, _⟩
  · rw [h2]; exact Nat.zero_le _
  · omega
theorem readsS_below {w w' : World} {a : Option Addr} {l : List ByteArray} (h : ReadsS w a l) (hb : Below w.heap.size w w') : ReadsS w' a l := by
  intro i hi
  obtain ⟨b, off, h1, h2⟩ := h i hi
  exact ⟨b, off, h1, by rw [hb.cell (World.block_lt_of_cell? w _ h2)]; exact h2⟩

set_option maxRecDepth 100000 in
set_option maxHeartbeats 800000 in
theorem same_any (l : List ByteArray) (a b : Option Addr) (c d : Nat) (w : World) (hl : l.length ≤ maxLen) (ha : ReadsS w a l) (hb : ReadsS w b l) :
    Calls Try.prog 18 #[.slice a l.length c, .slice b l.length d] w fun e w' => e = .returned (.bool true) ∧ Below w.heap.size w w' := by
  unfold maxLen at hl
  go_enter Try.func18, Try.ntmps18
  go_wp2
  go_loopw [5] (fun i wr => ∃ k : Nat, k ≤ l.length ∧ i = .int .i64 k ∧ ReadsS wr a l ∧ ReadsS wr b l ∧ Below w.heap.size w wr)
    (fun i _ => l.length - (intOf i).toNat)
  case atStart => exact ⟨0, by omega, rfl, ha, hb, Below.refl _ _⟩
  case round =>
    obtain ⟨k, hk, rfl, hra, hrb, hbl⟩ := hrel
    have HB := Lib.hid (And.intro hra (And.intro hrb hbl))
    by_cases hlt : k < l.length
    · obtain ⟨g1, o1, rfl, hc1⟩ := hra k hlt
      obtain ⟨g2, o2, rfl, hc2⟩ := hrb k hlt
      clear hra hrb hbl ha hb
      go_wp2
      go_quiet (fail)
      go_wp2
      go_roundw
      case rel => exact ⟨k + 1, by omega, by go_num, readsS_below HB.out.1 (below_drewN (Below.refl _ _) _), readsS_below HB.out.2.1 (below_drewN (Below.refl _ _) _), below_drewN HB.out.2.2 _⟩
      case measure => simp [intOf]; omega
    · clear hra hrb hbl ha hb
      go_wp2
      go_ret
      exact ⟨rfl, HB.out.2.2⟩

set_option maxRecDepth 100000 in
set_option maxHeartbeats 800000 in
theorem OctetTexts_walk (s : ByteArray) (count most : Int) (_w1 : (Lit.int .i64 count).wf = true) (_w2 : (Lit.int .i64 most).wf = true) (hs : s.size ≤ 1048576) (w : World) :
    Calls Try.prog 4 #[.string s, .int .i64 count, .int .i64 most] w fun e w' => e = .returned (.bool true) ∧ Below w.heap.size w w' := by
  have hsm : s.size ≤ maxLen := by unfold maxLen; omega
  have HS := Lib.hid hsm; clear hsm
  go_enter Try.func4, Try.ntmps4
  go_wp2_with fail
  refine (takeText_any s most _ HS.out).mono ?_
  rintro e w1 ⟨rfl, nd, hw⟩
  subst hw
  go_wp2_with fail
  refine (rtakeText_any s most _ HS.out).mono ?_
  rintro e w1 ⟨rfl, nd2, hw⟩
  subst hw
  generalize Oct.txt s most = T
  obtain ⟨t1, t2, t3⟩ := T
  go_wp2_with fail
  refine (takeTexts_any s count most _ hs).mono ?_
  rintro e w2 ⟨v, rfl, ho, hb⟩
  have H1 := Lib.hid (And.intro ho hb); clear ho hb
  go_wp2_with fail
  refine (rtakeTexts_any s count most _ hs).mono ?_
  rintro e w3 ⟨v', rfl, ho, hb⟩
  have H2 := Lib.hid (And.intro ho hb); clear ho hb
  obtain ⟨a1, c1, h1⟩ := ownsS_form H1.out.1
  obtain ⟨a2, c2, h2⟩ := ownsS_form H2.out.1
  subst h1 h2
  generalize hT : Oct.txts s count most = T at *
  obtain ⟨l, r, e⟩ := T
  clear hT
  have R1 := Lib.hid (readsS_below (ownsS_reads H1.out.1) H2.out.2)
  have R2 := Lib.hid (ownsS_reads H2.out.1)
  go_wp2_with fail
  refine (same_any l _ _ _ _ _ (ownsS_max H1.out.1) R1.out R2.out).mono ?_
  rintro e w4 ⟨rfl, hb⟩
  have H3 := Lib.hid hb; clear hb
  go_wp2_with fail
  refine (lives_any _).mono ?_
  rintro e w5 ⟨rfl, hb⟩
  have H4 := Lib.hid hb; clear hb
  go_wp2_with fail
  go_ret
  exact ⟨rfl, below_two (below_two (below_two (below_two (below_drewN (Below.refl _ _) _) H1.out.2) H2.out.2) H3.out) H4.out⟩
end Go.Proofs.Ytjppicochahjoaa
