/-
  The plain mathematics of layer 7 (wal): a log over a disk that has power: what its ring holds is what it tells.
-/
import Derived.Test.YtednmncapfclfaaZWalRun
namespace Go.Proofs.Ytednmncapfclfaa.Wl
/-- a log whose ring holds its texts, over a disk with power -/
structure Live (d : Dk.D) (g : Lg) : Prop where
  gone : d.gone = false
  fuse : d.fuse = -1
  good : Good d.B.length g
  holds : Holds (view d) g.fr g.n g.tail g.L
theorem run_live {fr n : Nat} (hn : 0 < n) : ∀ (l : List ByteArray) (d : Dk.D) (p : Nat), d.gone = false → d.fuse = -1 → fr + n ≤ d.B.length → p + l.length ≤ 4611686018427387904 → (∀ s ∈ l, s.size ≤ 490) → run d fr n p l = (puts d fr n p l, 0)
  | [], _, _, _, _, _, _, _ => rfl
  | s :: l, d, p, hg, hf, hb, hm, hs => by
    rw [List.length_cons] at hm
    have he : Sl.putE ((p : Nat) + 1 : Int) s = 0 := Sl.putE_ok.2 ⟨by omega, by omega, hs s (by simp)⟩
    obtain ⟨w1, w2⟩ := write_live hg hf (spot_lt (p := p) hn hb) (Sl.put_size he)
    have hE : stepE d fr n p s = 0 := w2
    have hD : stepD d fr n p s = ⟨d.B, d.W ++ [(spot fr n p, Sl.putB ((p : Nat) + 1 : Int) s)], -1, false⟩ := w1
    have e : run d fr n p (s :: l) = run (stepD d fr n p s) fr n (p + 1) l := if_neg fun hn => hn hE
    rw [e, run_live hn l (stepD d fr n p s) (p + 1) (by rw [hD]) (by rw [hD]) (by rw [hD]; exact hb) (by omega) fun x hx => hs x (by simp [hx])]
    rfl
theorem any_big {l : List ByteArray} : l.any big = false ↔ ∀ s ∈ l, s.size ≤ 490 := by
  constructor
  · intro h s hs
    have := List.any_eq_false.1 h s hs
    unfold big at this
    rw [decide_eq_true_iff] at this
    omega
  · intro h
    refine List.any_eq_false.2 fun s hs => ?_
    unfold big
    rw [decide_eq_true_iff]
    have := h s hs; omega
theorem live_app {d : Dk.D} {g : Lg} (h : Live d g) (l : List ByteArray) (hm : g.head + l.length ≤ 4611686018427387904) :
    Live (appD d g l) (appG d g l) ∧ (appD d g l).B = d.B ∧ ∃ V, (appD d g l).W = d.W ++ V ∧ ∀ x ∈ V, ∃ q, g.tail + g.L.length ≤ q ∧ q < g.tail + g.n ∧ x.1 = spot g.fr g.n q := by
  have hpos : 0 < g.n := h.good.pos
  have hroom := h.good.room
  by_cases h1 : l.any big = true
  · have e : appE d g l = 5 := by unfold appE; rw [if_pos h1]
    have e2 : appD d g l = d := by unfold appD; rw [if_pos h1]
    have e3 : appG d g l = g := by unfold appG; rw [if_neg (by rw [e]; decide)]
    rw [e2, e3]
    exact ⟨h, rfl, [], by rw [List.append_nil], fun x hx => by cases hx⟩
  · by_cases h2 : g.n - g.L.length < l.length
    · have e : appE d g l = 8 := by unfold appE; rw [if_neg h1, if_pos h2]
      have e2 : appD d g l = d := by unfold appD; rw [if_neg h1, if_pos h2]
      have e3 : appG d g l = g := by unfold appG; rw [if_neg (by rw [e]; decide)]
      rw [e2, e3]
      exact ⟨h, rfl, [], by rw [List.append_nil], fun x hx => by cases hx⟩
    · have hs := any_big.1 (by simpa using h1 : l.any big = false)
      have hr := run_live hpos l d g.head h.gone h.fuse h.good.fits hm hs
      have e : appE d g l = 0 := by unfold appE; rw [if_neg h1, if_neg h2, hr]
      have e2 : appD d g l = puts d g.fr g.n g.head l := by unfold appD; rw [if_neg h1, if_neg h2, hr]
      have e3 : appG d g l = { g with head := g.head + l.length, L := g.L ++ l } := by unfold appG; rw [if_pos e]
      have hg := (appG_good (d := d) l h.good).1
      rw [e3] at hg
      have he := h.good.ends
      have hp := puts_live hpos l d g.L h.gone h.fuse h.good.fits (tail := g.tail) (by omega) (by omega) hs h.holds
      rw [← he] at hp
      obtain ⟨p1, p2, p3, p4, V, p5, p6⟩ := hp
      rw [e2, e3]
      refine ⟨⟨p1, p2, by rw [p3]; exact hg, p4⟩, p3, V, p5, ?_⟩
      rw [← he]; exact p6
/-- an Append that fits -/
theorem live_fits {d : Dk.D} {g : Lg} (h : Live d g) (l : List ByteArray) (hm : g.head + l.length ≤ 4611686018427387904) (h1 : l.any big = false) (h2 : l.length ≤ g.n - g.L.length) : appE d g l = 0 ∧ appG d g l = { g with head := g.head + l.length, L := g.L ++ l } := by
  have hr := run_live (fr := g.fr) h.good.pos l d g.head h.gone h.fuse h.good.fits hm (any_big.1 h1)
  have e : appE d g l = 0 := by unfold appE; rw [if_neg (by rw [h1]; exact Bool.false_ne_true), if_neg (by omega), hr]
  exact ⟨e, by unfold appG; rw [if_pos e]⟩
theorem live_trim {d : Dk.D} {g : Lg} (h : Live d g) (t : Int) : Live d (trimG g t) := by
  refine ⟨h.gone, h.fuse, (trimG_good t h.good).1, ?_⟩
  unfold trimG
  split
  · exact h.holds
  · rename_i h0
    have := holds_drop h.holds (t.toNat - g.tail)
    rw [show g.tail + (t.toNat - g.tail) = t.toNat by omega] at this
    exact this
theorem live_open {d : Dk.D} {g : Lg} (h : Live d g) (hm : g.head ≤ 1125899906842624) : openE d g.fr g.n g.tail g.head = 0 ∧ openG d g.fr g.n g.tail g.head = g := by
  have he := h.good.ends
  have hp := h.good.pos
  have hf := h.good.fits
  have hr := h.good.room
  have hb : ¬ isBad d.B.length (g.fr : Int) g.n g.tail g.head := by unfold isBad; omega
  obtain ⟨f1, f2⟩ := found_all h.gone hp hf h.holds
  have ek : ((g.head : Int) - (g.tail : Int)).toNat = g.L.length := by omega
  constructor
  · unfold openE
    rw [if_neg hb, ek, Int.toNat_natCast, Int.toNat_natCast, Int.toNat_natCast]; exact f1
  · unfold openG
    rw [ek, Int.toNat_natCast, Int.toNat_natCast, Int.toNat_natCast, Int.toNat_natCast, f2]
theorem live_flush {d : Dk.D} {g : Lg} (h : Live d g) : Live (Dk.flush d) g ∧ (Dk.flush d).W = [] ∧ (Dk.flush d).B.length = d.B.length ∧ Dk.flushE d = 0 := by
  have e : Dk.flush d = ⟨Dk.over d.B d.W, [], -1, false⟩ := by
    unfold Dk.flush
    rw [if_neg (by rw [h.gone]; exact Bool.false_ne_true), if_neg (by rw [h.fuse]; decide), h.fuse, h.gone]; rfl
  have e2 : Dk.flushE d = 0 := by unfold Dk.flushE; rw [if_neg (by rw [h.gone]; exact Bool.false_ne_true), if_neg (by rw [h.fuse]; decide)]
  have hl : (Dk.over d.B d.W).length = d.B.length := Dk.over_len _ _
  rw [e]
  refine ⟨⟨rfl, rfl, ?_, ?_⟩, rfl, hl, e2⟩
  · show Good (Dk.over d.B d.W).length g; rw [hl]; exact h.good
  · exact h.holds
/-- behind a flush, more appended, and a crash -/
theorem live_crash {d : Dk.D} {g : Lg} (h : Live d g) (hW : d.W = []) (l : List ByteArray) (hm : g.head + l.length ≤ 4611686018427387904) (F : List Int) : Live (Dk.crash (appD d g l) F) g := by
  obtain ⟨_, h2, V, h3, h4⟩ := live_app h l hm
  rw [hW, List.nil_append] at h3
  have hB : Holds (appD d g l).B g.fr g.n g.tail g.L := by
    rw [h2]
    have := h.holds
    unfold view at this
    rw [hW] at this
    exact this
  refine ⟨rfl, rfl, ?_, crash_holds F hB h3 h4⟩
  show Good (Dk.crashK _ _ _ _).length g
  rw [Dk.crashK_len, h2]; exact h.good
theorem live_calm {d : Dk.D} {g : Lg} (h : Live d g) (hW : d.W = []) (F : List Int) : Live (Dk.crash d F) g := by
  have hB : Holds d.B g.fr g.n g.tail g.L := by
    have := h.holds
    unfold view at this
    rw [hW] at this
    exact this
  refine ⟨rfl, rfl, ?_, crash_holds F hB hW fun x hx => by cases hx⟩
  show Good (Dk.crashK _ _ _ _).length g
  rw [Dk.crashK_len]; exact h.good
/-- a new log over a new disk -/
theorem live_new {m fr n : Nat} (hn : 1 ≤ n) (hf : fr + n ≤ m) : Live (Dk.new m) ⟨fr, n, 0, 0, []⟩ ∧ openE (Dk.new m) fr n 0 0 = 0 ∧ openG (Dk.new m) fr n 0 0 = ⟨fr, n, 0, 0, []⟩ := by
  have hl : (Dk.new m).B.length = m := List.length_replicate
  have h : Live (Dk.new m) ⟨fr, n, 0, 0, []⟩ := ⟨rfl, rfl, ⟨hn, by rw [hl]; exact hf, rfl, Nat.zero_le _⟩, holds_none _ _ _ _⟩
  have := live_open h (by show 0 ≤ _; omega)
  exact ⟨h, this⟩
/-- the document's example -/
theorem lives_math : appE (Dk.new 3) ⟨0, 3, 0, 0, []⟩ [⟨#[97]⟩, ⟨#[98]⟩] = 0 ∧ appG (Dk.new 3) ⟨0, 3, 0, 0, []⟩ [⟨#[97]⟩, ⟨#[98]⟩] = ⟨0, 3, 0, 2, [⟨#[97]⟩, ⟨#[98]⟩]⟩ ∧ trimE ⟨0, 3, 0, 2, [⟨#[97]⟩, ⟨#[98]⟩]⟩ 1 = 0 ∧ trimG ⟨0, 3, 0, 2, [⟨#[97]⟩, ⟨#[98]⟩]⟩ 1 = ⟨0, 3, 1, 2, [⟨#[98]⟩]⟩ ∧
    ∃ d1, appD (Dk.new 3) ⟨0, 3, 0, 0, []⟩ [⟨#[97]⟩, ⟨#[98]⟩] = d1 ∧ Live d1 ⟨0, 3, 1, 2, [⟨#[98]⟩]⟩ ∧ d1.B.length = 3 ∧ d1.W.length ≤ 2 ∧ appE d1 ⟨0, 3, 1, 2, [⟨#[98]⟩]⟩ [⟨#[99]⟩, ⟨#[100]⟩] = 0 ∧ appG d1 ⟨0, 3, 1, 2, [⟨#[98]⟩]⟩ [⟨#[99]⟩, ⟨#[100]⟩] = ⟨0, 3, 1, 4, [⟨#[98]⟩, ⟨#[99]⟩, ⟨#[100]⟩]⟩ ∧
    ∃ d2, appD d1 ⟨0, 3, 1, 2, [⟨#[98]⟩]⟩ [⟨#[99]⟩, ⟨#[100]⟩] = d2 ∧ Dk.readE d2 0 = 0 ∧ (Dk.readS d2 0).size = 512 ∧ (Dk.readS d2 0).data.toList[7]? = some 4 := by
  obtain ⟨h0, _, _⟩ := live_new (m := 3) (fr := 0) (n := 3) (by omega) (by omega)
  obtain ⟨a1, a2⟩ := live_fits h0 [⟨#[97]⟩, ⟨#[98]⟩] (by show 0 + 2 ≤ _; omega) rfl (by decide)
  obtain ⟨h1, b1, V, b2, _⟩ := live_app h0 [⟨#[97]⟩, ⟨#[98]⟩] (by show 0 + 2 ≤ _; omega)
  have hw1 := appD_W (Dk.new 3) ⟨0, 3, 0, 0, []⟩ [⟨#[97]⟩, ⟨#[98]⟩]
  rw [a2] at h1
  have h2 := live_trim h1 1
  refine ⟨a1, a2, by decide, rfl, _, rfl, h2, by rw [b1]; rfl, hw1, ?_⟩
  obtain ⟨c1, c2⟩ := live_fits h2 [⟨#[99]⟩, ⟨#[100]⟩] (by show 2 + 2 ≤ _; omega) rfl (by decide)
  obtain ⟨h3, b3, _⟩ := live_app h2 [⟨#[99]⟩, ⟨#[100]⟩] (by show 2 + 2 ≤ _; omega)
  refine ⟨c1, c2, _, rfl, ?_⟩
  rw [c2] at h3
  have hl : (appD (appD (Dk.new 3) ⟨0, 3, 0, 0, []⟩ [⟨#[97]⟩, ⟨#[98]⟩]) ⟨0, 3, 1, 2, [⟨#[98]⟩]⟩ [⟨#[99]⟩, ⟨#[100]⟩]).B.length = 3 := by
    have : (appD (appD (Dk.new 3) ⟨0, 3, 0, 0, []⟩ [⟨#[97]⟩, ⟨#[98]⟩]) ⟨0, 3, 1, 2, [⟨#[98]⟩]⟩ [⟨#[99]⟩, ⟨#[100]⟩]).B = _ := b3
    rw [this, b1]; rfl
  change Live (appD (appD (Dk.new 3) ⟨0, 3, 0, 0, []⟩ [⟨#[97]⟩, ⟨#[98]⟩]) ⟨0, 3, 1, 2, [⟨#[98]⟩]⟩ [⟨#[99]⟩, ⟨#[100]⟩]) _ at h3
  generalize appD (appD (Dk.new 3) ⟨0, 3, 0, 0, []⟩ [⟨#[97]⟩, ⟨#[98]⟩]) ⟨0, 3, 1, 2, [⟨#[98]⟩]⟩ [⟨#[99]⟩, ⟨#[100]⟩] = d2 at *
  obtain ⟨k1, k2⟩ := h3.holds 2 (by show 2 < 3; omega)
  have e1 : Dk.readE d2 0 = 0 := by unfold Dk.readE; rw [if_neg (by rw [h3.gone]; exact Bool.false_ne_true), if_pos (by omega)]
  have e2 : Dk.readS d2 0 = Dk.blk (view d2) 0 := by unfold Dk.readS; rw [if_neg (by rw [h3.gone]; exact Bool.false_ne_true), if_pos (by omega)]; rfl
  have k2' : Dk.blk (view d2) 0 = Sl.putB 4 ⟨#[100]⟩ := k2
  have k1' : Sl.putE 4 ⟨#[100]⟩ = 0 := k1
  rw [e2, k2']
  refine ⟨e1, Sl.put_size k1', ?_⟩
  have hn := (Sl.put_parts k1').num
  generalize (Sl.putB 4 ⟨#[100]⟩).data.toList = l at hn ⊢
  have : (l.take 8)[7]? = l[7]? := by rw [List.getElem?_take, if_pos (by omega)]
  rw [← this, hn]
  decide
end Go.Proofs.Ytednmncapfclfaa.Wl
