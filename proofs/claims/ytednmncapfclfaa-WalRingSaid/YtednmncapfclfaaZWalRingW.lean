/-
  Layer 7's laws: WalRing, walked.
-/
import Derived.Test.YtednmncapfclfaaZWalLaws
namespace Go.Proofs.Ytednmncapfclfaa
open Go.RowKit
/-- the disk alone, as a family -/
abbrev OneF (p : Nat) : World → (Nat → Prop) → Dk.D → Prop := fun w X d => One w X p d
structure RingIn (w : World) (r k t l p : Nat) (L : List ByteArray) (wa : Option Addr) (wc : Nat) (Wt : List ByteArray) (wr : World) (d : Dk.D) (Sw : Nat → Prop) : Prop where
  pair : Pair 63 (OneF p) wr (fun j => j < w.heap.size ∨ Sw j) l p d ⟨1, r, t, k, L⟩
  live : Wl.Live d ⟨1, r, t, k, L⟩
  blocks : d.B.length = 9
  loose : d.W.length ≤ k
  want : RecAt wr Sw (fun _ => False) wa wc Wt
  high : ∀ j, Sw j → w.heap.size ≤ j
  below : Below w.heap.size w wr
def RingSt (w : World) (r k t l p : Nat) (L : List ByteArray) (wa : Option Addr) (wc : Nat) (Wt : List ByteArray) (wr : World) : Prop := ∃ d Sw, RingIn w r k t l p L wa wc Wt wr d Sw
section
variable {w wr w' : World} {r k t l p wc : Nat} {L Wt : List ByteArray} {wa : Option Addr}
theorem ring_below (h : RingSt w r k t l p L wa wc Wt wr) (hb : Below wr.heap.size wr w') : RingSt w r k t l p L wa wc Wt w' := by
  obtain ⟨d, Sw, h⟩ := h
  exact ⟨d, Sw, pair_below (dskP_one p).apart h.pair hb, h.live, h.blocks, h.loose, recAt_only h.want (Only.of_none (F := fun _ => False) hb) fun _ _ _ h => h, h.high, below_two h.below hb⟩
theorem ring_ends (h : RingSt w r k t l p L wa wc Wt wr) : k = t + L.length ∧ L.length ≤ r := by
  obtain ⟨d, Sw, h⟩ := h
  exact ⟨h.live.good.ends, h.live.good.room⟩
/-- a record that has no room -/
theorem ring_full (h : RingSt w r k t l p L wa wc Wt wr) (hk : k ≤ 60) (hf : L.length = r) (ad : Option Addr) (s : ByteArray) (c : Nat) (hs : s.size ≤ 490) (hr : ReadsS wr ad [s]) (had : ∀ a, ad = some a → a.block < w.heap.size) :
    Calls Try.prog 20 #[.pointer (some ⟨l, 0, none⟩), .slice ad 1 c] wr fun e w' => e = .returned (.int .i64 8) ∧ RingSt w r k t l p L wa wc Wt w' := by
  obtain ⟨d, Sw, h⟩ := h
  have hb : [s].any Wl.big = false := Wl.any_big.2 fun x hx => by rw [List.mem_singleton] at hx; rw [hx]; exact hs
  obtain ⟨e1, e2, e3⟩ := Wl.app_full (d := d) (g := ⟨1, r, t, k, L⟩) (lst := [s]) (by rw [hb]; exact Bool.false_ne_true) (by show r - L.length < 1; omega)
  have hc := pair_append (dskP_one p) h.pair (g := ⟨1, r, t, k, L⟩) h.live.good ad [s] c hr (fun a ha _ => .inl (had a ha)) (by show 1 ≤ _; omega) (by show k + 1 ≤ _; omega) (by have := h.loose; show d.W.length + 1 ≤ _; omega)
  rw [e1, e2, e3] at hc
  exact hc.mono fun e w' ⟨a1, a2, a3⟩ => ⟨a1, d, Sw, a2, h.live, h.blocks, h.loose, recAt_only h.want a3 fun j _ hj hn => hn (.inr hj), h.high, only_low h.below a3 fun _ h => .inl h⟩
/-- the first record is taken away -/
theorem ring_drop (h : RingSt w r k t l p L wa wc Wt wr) (hk : k ≤ 60) (hL : 1 ≤ L.length) :
    Calls Try.prog 21 #[.pointer (some ⟨l, 0, none⟩), .int .i64 ((t + 1 : Nat) : Int)] wr fun e w' => e = .returned (.int .i64 0) ∧ RingSt w r k (t + 1) l p (L.drop 1) wa wc Wt w' := by
  obtain ⟨d, Sw, h⟩ := h
  have he : k = t + L.length := h.live.good.ends
  obtain ⟨e1, e2⟩ := Wl.trim_yes (g := ⟨1, r, t, k, L⟩) (t := ((t + 1 : Nat) : Int)) (by show ¬ (((t + 1 : Nat) : Int) < (t : Int) ∨ (k : Int) < ((t + 1 : Nat) : Int)); omega)
  have hl := Wl.live_trim h.live ((t + 1 : Nat) : Int)
  have hc := pair_trim (dskP_one p).apart h.pair (g := ⟨1, r, t, k, L⟩) h.live.good (by show k ≤ _; omega) ((t + 1 : Nat) : Int)
  have eg : Wl.trimG ⟨1, r, t, k, L⟩ ((t + 1 : Nat) : Int) = ⟨1, r, t + 1, k, L.drop 1⟩ := by
    rw [e2, Int.toNat_natCast, show t + 1 - t = 1 by omega]
  rw [e1, eg] at hc
  rw [eg] at hl
  exact hc.mono fun e w' ⟨a1, a2, a3⟩ => ⟨a1, d, Sw, a2, hl, h.blocks, h.loose, recAt_only h.want a3 fun j _ hj hn => hn (.inr hj), h.high, only_low h.below a3 fun _ h => .inl h⟩
/-- a record that has room -/
theorem ring_app (h : RingSt w r k t l p L wa wc Wt wr) (hk : k ≤ 60) (hf : L.length < r) (ad : Option Addr) (s : ByteArray) (c : Nat) (hs : s.size ≤ 490) (hr : ReadsS wr ad [s]) (had : ∀ a, ad = some a → a.block < w.heap.size) :
    Calls Try.prog 20 #[.pointer (some ⟨l, 0, none⟩), .slice ad 1 c] wr fun e w' => e = .returned (.int .i64 0) ∧ RingSt w r (k + 1) t l p (L ++ [s]) wa wc Wt w' := by
  obtain ⟨d, Sw, h⟩ := h
  have hb : [s].any Wl.big = false := Wl.any_big.2 fun x hx => by rw [List.mem_singleton] at hx; rw [hx]; exact hs
  obtain ⟨e1, e2⟩ := Wl.live_fits h.live [s] (by show k + 1 ≤ _; omega) hb (by show 1 ≤ r - L.length; omega)
  obtain ⟨l1, l2, _⟩ := Wl.live_app h.live [s] (by show k + 1 ≤ _; omega)
  have hW := Wl.appD_W d ⟨1, r, t, k, L⟩ [s]
  have hc := pair_append (dskP_one p) h.pair (g := ⟨1, r, t, k, L⟩) h.live.good ad [s] c hr (fun a ha _ => .inl (had a ha)) (by show 1 ≤ _; omega) (by show k + 1 ≤ _; omega) (by have := h.loose; show d.W.length + 1 ≤ _; omega)
  rw [e1, e2] at hc
  rw [e2] at l1
  exact hc.mono fun e w' ⟨a1, a2, a3⟩ => ⟨a1, _, Sw, a2, l1, by rw [l2]; exact h.blocks, Nat.le_trans hW (Nat.add_le_add_right h.loose _), recAt_only h.want a3 fun j _ hj hn => hn (.inr hj), h.high, only_low h.below a3 fun _ h => .inl h⟩
/-- what is wanted, cut -/
theorem ring_cut (h : RingSt w r k t l p L wa wc Wt wr) (hW : 1 ≤ Wt.length) : RingSt w r k t l p L (if wc = 1 then wa else wa.map (·.add (1 * 1))) (wc - 1) (Wt.drop 1) wr := by
  obtain ⟨d, Sw, h⟩ := h
  exact ⟨d, Sw, h.pair, h.live, h.blocks, h.loose, recAt_cut h.want 1 hW wc (recAt_len h.want).1 (Nat.le_refl _), h.high, h.below⟩
/-- what is wanted, and a text more -/
theorem ring_want {d : Dk.D} {Sw : Nat → Prop} (h : RingIn w r k t l p L wa wc Wt wr d Sw) {wa' : Option Addr} {wc' : Nat} {Wt' : List ByteArray} (hR : RecAt w' (fun j => Sw j ∨ wr.heap.size ≤ j) (fun _ => False) wa' wc' Wt') (ho : Only (fun j => Sw j ∧ ¬ False) wr w') : RingSt w r k t l p L wa' wc' Wt' w' := by
  have hb : Below w.heap.size w w' := h.below.trans (ho.below (fun j _ hj => h.high j hj.1) h.below.size)
  refine ⟨d, fun j => Sw j ∨ (wr.heap.size ≤ j ∧ j < w'.heap.size), pair_less (pair_grow (dskP_one p).apart h.pair (ho.mono fun j _ hj => .inr hj.1)) ?_, h.live, h.blocks, h.loose, recAt_mono hR (fun j hj hs => hs.imp id fun h => ⟨h, hj⟩) (fun _ _ h => h), fun j hj => hj.elim (h.high j) fun hh => Nat.le_trans h.below.size hh.1, hb⟩
  exact fun j hj => hj.elim (fun h => .inl (.inl h)) fun h => h.imp .inr id
theorem ring_tail (h : RingSt w r k t l p L wa wc Wt wr) : Calls Try.prog 13 #[.pointer (some ⟨l, 0, none⟩)] wr fun e w' => e = .returned (.int .i64 (t : Int)) ∧ w' = wr := by
  obtain ⟨d, Sw, h⟩ := h
  exact pair_tail h.pair
theorem ring_head (h : RingSt w r k t l p L wa wc Wt wr) : Calls Try.prog 14 #[.pointer (some ⟨l, 0, none⟩)] wr fun e w' => e = .returned (.int .i64 (k : Int)) ∧ w' = wr := by
  obtain ⟨d, Sw, h⟩ := h
  exact pair_head h.pair
theorem ring_records (h : RingSt w r k t l p L wa wc Wt wr) (hr : r ≤ 8) : Calls Try.prog 18 #[.pointer (some ⟨l, 0, none⟩)] wr (ClonedS L wr) := by
  have := (ring_ends h).2
  obtain ⟨d, Sw, h⟩ := h
  exact pair_records h.pair (by show L.length ≤ _; omega)
theorem ring_room (h : RingSt w r k t l p L wa wc Wt wr) (hk : k ≤ 60) : Calls Try.prog 15 #[.pointer (some ⟨l, 0, none⟩)] wr fun e w' => e = .returned (.int .i64 ((r - L.length : Nat) : Int)) ∧ Below wr.heap.size wr w' := by
  obtain ⟨d, Sw, h⟩ := h
  exact pair_room h.pair h.live.good (by rw [h.blocks]; omega) (by show k ≤ _; omega)
/-- it is found again -/
theorem ring_open (h : RingSt w r k t l p L wa wc Wt wr) (hr : r ≤ 8) (hk : k ≤ 60) : Calls Try.prog 19 #[.pointer (some ⟨p, 0, none⟩), .int .i64 1, .int .i64 (r : Int), .int .i64 (t : Int), .int .i64 (k : Int)] wr fun e w' => ∃ v, e = .returned (.tuple #[.pointer (some ⟨v, 0, none⟩), .int .i64 0]) ∧ LogAt 63 w' (fun j => wr.heap.size ≤ j) v p ⟨1, r, t, k, L⟩ ∧ Below wr.heap.size wr w' := by
  obtain ⟨d, Sw, h⟩ := h
  obtain ⟨X, hx, _⟩ := pair_base h.pair
  obtain ⟨e1, e2⟩ := Wl.live_open h.live (by show k ≤ _; omega)
  have := wopen_any (dskP_one p) hx 1 r t k (by omega)
  refine this.mono fun e w' hP => ?_
  rcases hP with ⟨h1, _⟩ | ⟨_, v, h2, h3, h4⟩
  · exact absurd e1 h1
  · rw [show Wl.openG d 1 (r : Int) (t : Int) (k : Int) = ⟨1, r, t, k, L⟩ from e2] at h3
    exact ⟨v, h2, h3, h4⟩
theorem ring_base (h : RingSt w r k t l p L wa wc Wt wr) : Below w.heap.size w wr := by
  obtain ⟨d, Sw, h⟩ := h
  exact h.below
theorem ring_reads (h : RingSt w r k t l p L wa wc Wt wr) : ReadsS wr wa Wt := by
  obtain ⟨d, Sw, h⟩ := h
  exact recAt_reads h.want
theorem reads_part {ad : Option Addr} {lst : List ByteArray} {k : Nat} {wr : World} (hr : ReadsS wr ad lst) (hk : k < lst.length) (cap : Nat) (hc : lst.length ≤ cap) : ReadsS wr (if cap = k then ad else ad.map (·.add (k * 1))) [lst[k]] := by
  rw [if_neg (by omega), Nat.mul_one]
  intro i hi
  obtain rfl : i = 0 := by simp at hi; omega
  obtain ⟨b, off, rfl, h⟩ := hr k hk
  exact ⟨b, off + k, by rw [Option.map_some, addr_add], h⟩
end
end Go.Proofs.Ytednmncapfclfaa
