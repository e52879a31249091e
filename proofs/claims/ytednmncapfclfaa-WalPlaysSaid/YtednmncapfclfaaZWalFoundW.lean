/-
  Layer 7's laws: WalFound: its steps.
-/
import Derived.Test.YtednmncapfclfaaZWalRingW
namespace Go.Proofs.Ytednmncapfclfaa
open Go.RowKit
def FoundSt (w : World) (l p H M : Nat) (wr : World) : Prop := ∃ d g, Pair 63 (OneF p) wr (fun j => j < w.heap.size) l p d g ∧ Wl.Live d g ∧ g.fr = 2 ∧ g.n = 10 ∧ d.B.length = 12 ∧ g.head ≤ H ∧ d.W.length ≤ M ∧ Below w.heap.size w wr
def SomeE (Q : World → Prop) (e : Ending) (w' : World) : Prop := ∃ E : Int, e = .returned (.int .i64 E) ∧ Q w'
section
variable {w wr w' : World} {l p H M : Nat}
theorem found_base (h : FoundSt w l p H M wr) : Below w.heap.size w wr := by
  obtain ⟨d, g, _, _, _, _, _, _, _, h⟩ := h
  exact h
theorem found_below (h : FoundSt w l p H M wr) (hb : Below wr.heap.size wr w') : FoundSt w l p H M w' := by
  obtain ⟨d, g, h1, h2, h3, h4, h5, h6, h7, h8⟩ := h
  exact ⟨d, g, pair_below (dskP_one p).apart h1 hb, h2, h3, h4, h5, h6, h7, below_two h8 hb⟩
theorem found_more {H' M' : Nat} (h : FoundSt w l p H M wr) (hH : H ≤ H') (hM : M ≤ M') : FoundSt w l p H' M' wr := by
  obtain ⟨d, g, h1, h2, h3, h4, h5, h6, h7, h8⟩ := h
  exact ⟨d, g, h1, h2, h3, h4, h5, Nat.le_trans h6 hH, Nat.le_trans h7 hM, h8⟩
theorem found_append (h : FoundSt w l p H M wr) (hH : H ≤ 10000) (hM : M ≤ 10000) (ad : Option Addr) (lst : List ByteArray) (c : Nat) (hl : lst.length ≤ 20) (hr : ReadsS wr ad lst) (had : ∀ a, ad = some a → lst ≠ [] → a.block < w.heap.size) :
    Calls Try.prog 20 #[.pointer (some ⟨l, 0, none⟩), .slice ad lst.length c] wr (SomeE (FoundSt w l p (H + 20) (M + 20))) := by
  obtain ⟨d, g, h1, h2, h3, h4, h5, h6, h7, h8⟩ := h
  obtain ⟨l1, l2, _⟩ := Wl.live_app h2 lst (by omega)
  have hW := Wl.appD_W d g lst
  obtain ⟨_, hg⟩ := Wl.appG_good (d := d) lst h2.good
  have hf : (Wl.appG d g lst).fr = g.fr ∧ (Wl.appG d g lst).n = g.n := by unfold Wl.appG; split <;> exact ⟨rfl, rfl⟩
  refine (pair_append (dskP_one p) h1 h2.good ad lst c hr had (by omega) (by omega) (by omega)).mono fun e w' ⟨a1, a2, a3⟩ => ?_
  exact ⟨_, a1, _, _, a2, l1, by rw [hf.1]; exact h3, by rw [hf.2]; exact h4, by rw [l2]; exact h5, by omega, by omega, only_low h8 a3 fun _ h => h⟩
theorem found_trim (h : FoundSt w l p H M wr) (hH : H ≤ 10000) (t : Int) : Calls Try.prog 21 #[.pointer (some ⟨l, 0, none⟩), .int .i64 t] wr (SomeE (FoundSt w l p H M)) := by
  obtain ⟨d, g, h1, h2, h3, h4, h5, h6, h7, h8⟩ := h
  have hf : (Wl.trimG g t).fr = g.fr ∧ (Wl.trimG g t).n = g.n := by unfold Wl.trimG; split <;> exact ⟨rfl, rfl⟩
  obtain ⟨_, hh⟩ := Wl.trimG_good t h2.good
  refine (pair_trim (dskP_one p).apart h1 h2.good (by omega) t).mono fun e w' ⟨a1, a2, a3⟩ => ?_
  exact ⟨_, a1, d, _, a2, Wl.live_trim h2 t, by rw [hf.1]; exact h3, by rw [hf.2]; exact h4, h5, by rw [hh]; exact h6, h7, only_low h8 a3 fun _ h => h⟩
theorem found_head (h : FoundSt w l p H M wr) : Calls Try.prog 14 #[.pointer (some ⟨l, 0, none⟩)] wr (SomeE fun w' => w' = wr) := by
  obtain ⟨d, g, h1, _⟩ := h
  exact (pair_head h1).mono fun e w' ⟨a, b⟩ => ⟨_, a, b⟩
theorem readsS_stay {Y : Nat → Prop} {a : Option Addr} {lst : List ByteArray} (h : ReadsS w a lst) (ho : Only (fun k => ¬ Y k) w w') (hY : ∀ x, a = some x → lst ≠ [] → Y x.block) : ReadsS w' a lst := by
  intro i hi
  obtain ⟨b, off, e, hc⟩ := h i hi
  exact ⟨b, off, e, (ho.cell (World.block_lt_of_cell? w _ hc) (show ¬ ¬ Y b from fun hn => hn (hY _ e (by intro e0; rw [e0] at hi; simp at hi)))).trans hc⟩
/-- behind the flush: the log as it is found again -/
structure Flushed (w : World) (Y : Nat → Prop) (l p : Nat) (d : Dk.D) (g : Wl.Lg) (wr : World) : Prop where
  pair : Pair 63 (OneF p) wr Y l p d g
  live : Wl.Live d g
  fr : g.fr = 2
  n : g.n = 10
  blocks : d.B.length = 12
  head : g.head ≤ 10000
  none : d.W = []
  low : ∀ k, k < w.heap.size → Y k
  below : Below w.heap.size w wr
theorem found_flush (h : FoundSt w l p H M wr) (hH : H ≤ 10000) : Calls Try.prog 22 #[.pointer (some ⟨p, 0, none⟩)] wr (SomeE fun w' => ∃ d g, Flushed w (fun j => j < w.heap.size) l p d g w') := by
  obtain ⟨d, g, h1, h2, h3, h4, h5, h6, h7, h8⟩ := h
  obtain ⟨l1, l2, l3, l4⟩ := Wl.live_flush h2
  refine (pair_lift (D' := OneF p) (d' := Dk.flush d) (Q := fun e _ => e = .returned (.int .i64 (Dk.flushE d))) h1 fun X hx _ => one_flush hx).mono fun e w' ⟨a1, a2, a3⟩ => ?_
  exact ⟨_, a1, _, g, a2, l1, h3, h4, by rw [l3]; exact h5, by omega, l2, fun _ h => h, only_low h8 a3 fun _ h => h⟩
variable {Y : Nat → Prop} {d : Dk.D} {g : Wl.Lg}
/-- its records told, in a block of their own -/
theorem fl_records (h : Flushed w (fun j => j < w.heap.size) l p d g wr) : Calls Try.prog 18 #[.pointer (some ⟨l, 0, none⟩)] wr fun e w' => ∃ ra rc, e = .returned (.slice ra g.L.length rc) ∧ ReadsS w' ra g.L ∧ ∃ Y : Nat → Prop, Flushed w Y l p d g w' ∧ ∀ x, ra = some x → g.L ≠ [] → Y x.block := by
  obtain ⟨S, hl⟩ := pair_log h.pair
  have hr := h.live.good.room
  refine (wrecords_new hl (by have := h.n; omega)).mono fun e w' ⟨ra, rc, a1, a2, a3, a4⟩ => ⟨ra, rc, a1, a2, _, ⟨pair_more (dskP_one p).apart h.pair a3, h.live, h.fr, h.n, h.blocks, h.head, h.none, fun _ h => .inl h, below_two h.below a3⟩, fun x hx hne => .inr ⟨a4 x hx hne, ?_⟩⟩
  obtain ⟨b, off, e, hc⟩ := a2 0 (List.length_pos_iff.2 hne)
  rw [hx] at e; cases e
  exact World.block_lt_of_cell? w' _ hc
theorem fl_room (h : Flushed w Y l p d g wr) : Calls Try.prog 15 #[.pointer (some ⟨l, 0, none⟩)] wr fun e w' => e = .returned (.int .i64 ((g.n - g.L.length : Nat) : Int)) ∧ Flushed w Y l p d g w' ∧ Below wr.heap.size wr w' := by
  refine (pair_room h.pair h.live.good (by rw [h.blocks]; omega) (by have := h.head; omega)).mono fun e w' ⟨a1, a2⟩ => ⟨a1, ⟨pair_below (dskP_one p).apart h.pair a2, h.live, h.fr, h.n, h.blocks, h.head, h.none, h.low, below_two h.below a2⟩, a2⟩
/-- where the crash leads -/
def Leads (w : World) (Y : Nat → Prop) (l p : Nat) (g : Wl.Lg) (wr : World) : Prop := ∃ d1 g1, Pair 63 (OneF p) wr Y l p d1 g1 ∧ (∀ F, Wl.Live (Dk.crash d1 F) g) ∧ (∀ k, k < w.heap.size → Y k) ∧ Below w.heap.size w wr
theorem fl_calm (h : Flushed w Y l p d g wr) : Leads w Y l p g wr := ⟨d, g, h.pair, fun F => Wl.live_calm h.live h.none F, h.low, h.below⟩
theorem fl_append (h : Flushed w Y l p d g wr) (ad : Option Addr) (lst : List ByteArray) (c : Nat) (hl : lst.length ≤ 20) (hr : ReadsS wr ad lst) (had : ∀ a, ad = some a → lst ≠ [] → a.block < w.heap.size) :
    Calls Try.prog 20 #[.pointer (some ⟨l, 0, none⟩), .slice ad lst.length c] wr (SomeE fun w' => Leads w Y l p g w' ∧ Only (fun k => ¬ Y k) wr w') := by
  have hh := h.head
  refine (pair_append (dskP_one p) h.pair h.live.good ad lst c hr (fun a ha hn => h.low _ (had a ha hn)) (by omega) (by omega) (by rw [h.none]; show 0 + lst.length ≤ _; omega)).mono fun e w' ⟨a1, a2, a3⟩ => ?_
  exact ⟨_, a1, ⟨_, _, a2, fun F => Wl.live_crash h.live h.none lst (by omega) F, h.low, only_low h.below a3 h.low⟩, a3⟩
theorem ld_crash (h : Leads w Y l p g wr) (fa : Option Addr) (F : List Int) (fc : Nat) (hF : ReadsI wr fa F) (hfa : ∀ a, fa = some a → F ≠ [] → a.block < w.heap.size) :
    Calls Try.prog 23 #[.pointer (some ⟨p, 0, none⟩), .slice fa F.length fc] wr fun e w' => e = .returned (.int .i64 0) ∧ ((∃ d2 X, One w' X p d2 ∧ Wl.Live d2 g) ∧ Below w.heap.size w w') ∧ Only (fun k => ¬ Y k) wr w' := by
  obtain ⟨d1, g1, h1, h2, h3, h4⟩ := h
  refine (pair_lift (D' := OneF p) (d' := Dk.crash d1 F) (Q := fun e _ => e = .returned (.int .i64 0)) h1 fun X hx hY => one_crash hx fa F fc hF fun a ha hn => hY _ (h3 _ (hfa a ha hn))).mono fun e w' ⟨a1, a2, a3⟩ => ?_
  obtain ⟨X, hx, _⟩ := pair_base a2
  exact ⟨a1, ⟨⟨_, X, hx, h2 F⟩, only_low h4 a3 h3⟩, a3⟩
theorem cr_open (h : ∃ d2 X, One wr X p d2 ∧ Wl.Live d2 g) (hfr : g.fr = 2) (hn : g.n = 10) (hh : g.head ≤ 10000) : Calls Try.prog 19 #[.pointer (some ⟨p, 0, none⟩), .int .i64 2, .int .i64 10, .int .i64 (g.tail : Int), .int .i64 (g.head : Int)] wr fun e w' => ∃ v, e = .returned (.tuple #[.pointer (some ⟨v, 0, none⟩), .int .i64 0]) ∧ LogAt 63 w' (fun j => wr.heap.size ≤ j) v p g ∧ Below wr.heap.size wr w' := by
  obtain ⟨d2, X, hx, hlv⟩ := h
  obtain ⟨e1, e2⟩ := Wl.live_open hlv (by omega)
  rw [hfr, hn] at e1 e2
  refine (wopen_any (dskP_one p) hx 2 10 g.tail g.head (by omega)).mono fun e w' hP => ?_
  rcases hP with ⟨h1, _⟩ | ⟨_, v, h2, h3, h4⟩
  · exact absurd e1 h1
  · rw [show Wl.openG d2 2 10 (g.tail : Int) (g.head : Int) = g from e2] at h3
    exact ⟨v, h2, h3, h4⟩
end
end Go.Proofs.Ytednmncapfclfaa
