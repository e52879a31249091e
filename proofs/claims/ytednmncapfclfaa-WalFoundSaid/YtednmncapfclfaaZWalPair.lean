/-
  Layer 7: a disk and a log over it, apart from the blocks that are named.
-/
import Derived.Test.YtednmncapfclfaaZWalOpen
namespace Go.Proofs.Ytednmncapfclfaa
open Go.RowKit
/-- a disk (or more), and a log of it, apart from what Y names -/
def Pair (T : Nat) (D : World → (Nat → Prop) → Dk.D → Prop) (w : World) (Y : Nat → Prop) (l p : Nat) (d : Dk.D) (g : Wl.Lg) : Prop :=
  ∃ S X : Nat → Prop, D w X d ∧ LogAt T w S l p g ∧ (∀ k, S k → X k) ∧ (∀ k, Y k → X k) ∧ ∀ k, S k → ¬ Y k
/-- what every such predicate has -/
structure Apart (D : World → (Nat → Prop) → Dk.D → Prop) : Prop where
  ok : ∀ {w X d}, D w X d → Dk.Ok d
  lt : ∀ {w X d}, D w X d → ∀ k, X k → k < w.heap.size
  less : ∀ {w X Y d}, D w X d → (∀ k, Y k → X k) → D w Y d
  grow : ∀ {w w' X d}, D w X d → Only X w w' → D w' (fun k => X k ∨ (w.heap.size ≤ k ∧ k < w'.heap.size)) d
section
variable {T T' : Nat} {w w' : World} {Y Z : Nat → Prop} {l p : Nat} {d d' : Dk.D} {g g' : Wl.Lg} {D D' : World → (Nat → Prop) → Dk.D → Prop}
theorem DskP.apart (K : DskP p D) : Apart D := ⟨K.ok, K.lt, K.less, K.grow⟩
theorem Apart.at_ (K : Apart D) {X : Nat → Prop} (h : D w X d) {F : Nat → Prop} (ho : Only F w w') (hF : ∀ k, F k → X k) : D w' X d := K.less (K.grow h (ho.mono fun k _ hk => hF k hk)) fun _ h => .inl h
theorem Apart.below (K : Apart D) {X : Nat → Prop} (h : D w X d) (hb : Below w.heap.size w w') : D w' X d := K.at_ h (Only.of_none (F := fun _ => False) hb) fun _ h => h.elim
theorem pair_less (h : Pair T D w Y l p d g) (hZ : ∀ k, Z k → Y k) : Pair T D w Z l p d g := by
  obtain ⟨S, X, h1, h2, h3, h4, h5⟩ := h
  exact ⟨S, X, h1, h2, h3, fun k hk => h4 k (hZ k hk), fun k hk hz => h5 k hk (hZ k hz)⟩
theorem pair_lt (K : Apart D) (h : Pair T D w Y l p d g) : ∀ k, Y k → k < w.heap.size := by
  obtain ⟨S, X, h1, h2, h3, h4, h5⟩ := h
  exact fun k hk => K.lt h1 k (h4 k hk)
theorem pair_ok (K : Apart D) (h : Pair T D w Y l p d g) : Dk.Ok d := by
  obtain ⟨S, X, h1, _⟩ := h
  exact K.ok h1
/-- a step that turns blocks of Y alone, and what it makes -/
theorem pair_grow (K : Apart D) (h : Pair T D w Y l p d g) (ho : Only Y w w') : Pair T D w' (fun k => Y k ∨ (w.heap.size ≤ k ∧ k < w'.heap.size)) l p d g := by
  obtain ⟨S, X, h1, h2, h3, h4, h5⟩ := h
  have hS : ∀ k, S k → k < w.heap.size := fun k hk => K.lt h1 k (h3 k hk)
  refine ⟨S, _, K.grow h1 (ho.mono fun k _ hk => h4 k hk), logAt_only h2 ho fun k _ hk hy => h5 k hk hy, fun k hk => .inl (h3 k hk), fun k hk => hk.imp (h4 k) id, fun k hk hy => hy.elim (h5 k hk) fun h => ?_⟩
  have := hS k hk; omega
theorem pair_apart (K : Apart D) : Apart (fun w Y d => Pair T D w Y l p d g) := ⟨fun h => pair_ok K h, fun h => pair_lt K h, fun h => pair_less h, fun h => pair_grow K h⟩
theorem pair_at (K : Apart D) (h : Pair T D w Y l p d g) {F : Nat → Prop} (ho : Only F w w') (hF : ∀ k, F k → Y k) : Pair T D w' Y l p d g := (pair_apart K).at_ h ho hF
theorem pair_below (K : Apart D) (h : Pair T D w Y l p d g) (hb : Below w.heap.size w w') : Pair T D w' Y l p d g := (pair_apart K).below h hb
/-- a block more that they leave alone -/
theorem pair_more (K : Apart D) (h : Pair T D w Y l p d g) (hb : Below w.heap.size w w') : Pair T D w' (fun k => Y k ∨ (w.heap.size ≤ k ∧ k < w'.heap.size)) l p d g := pair_grow K h (Only.of_none hb)
/-- a step of what lies below, the log let be -/
theorem pair_lift {f : FuncId} {args : Array Value} {Q : Ending → World → Prop} (h : Pair T D w Y l p d g) (hc : ∀ X : Nat → Prop, D w X d → (∀ k, Y k → X k) → Calls Try.prog f args w fun en w' => Q en w' ∧ D' w' X d' ∧ Only (fun k => ¬ X k) w w') :
    Calls Try.prog f args w fun en w' => Q en w' ∧ Pair T D' w' Y l p d' g ∧ Only (fun k => ¬ Y k) w w' := by
  obtain ⟨S, X, h1, h2, h3, h4, h5⟩ := h
  refine (hc X h1 h4).mono fun en w' ⟨q, hd, ho⟩ => ⟨q, ⟨S, X, hd, logAt_only h2 ho fun k _ hk hn => hn (h3 k hk), h3, h4, h5⟩, ho.mono fun k _ hn hy => hn (h4 k hy)⟩
/-- a new log -/
theorem pair_open (K : Apart D) {X : Nat → Prop} (h : D w X d) (hl : LogAt T w' (fun k => w.heap.size ≤ k) l p g) (hb : Below w.heap.size w w') : Pair T D w' X l p d g := by
  refine ⟨fun k => w.heap.size ≤ k ∧ k < w'.heap.size, _, K.grow h (Only.of_none hb), logAt_mono hl fun k hk h => ⟨h, hk⟩, fun k hk => .inr hk, fun k hk => .inl hk, fun k hk hx => ?_⟩
  have := K.lt h k hx
  omega
theorem pair_log (h : Pair T D w Y l p d g) : ∃ S, LogAt T w S l p g := by
  obtain ⟨S, X, h1, h2, _⟩ := h
  exact ⟨S, h2⟩
theorem pair_base (h : Pair T D w Y l p d g) : ∃ X : Nat → Prop, D w X d ∧ ∀ k, Y k → X k := by
  obtain ⟨S, X, h1, h2, h3, h4, _⟩ := h
  exact ⟨X, h1, h4⟩
/-- a step that turns the log's blocks alone -/
theorem pair_own (K : Apart D) {f : FuncId} {args : Array Value} {R : Ending} (h : Pair T D w Y l p d g) (hc : ∀ S : Nat → Prop, LogAt T w S l p g → Calls Try.prog f args w fun en w' => en = R ∧ LogAt T w' S l p g' ∧ Only S w w') :
    Calls Try.prog f args w fun en w' => en = R ∧ Pair T D w' Y l p d g' ∧ Only (fun k => ¬ Y k) w w' := by
  obtain ⟨S, X, h1, h2, h3, h4, h5⟩ := h
  exact (hc S h2).mono fun en w' ⟨q, hl, ho⟩ => ⟨q, ⟨S, X, K.at_ h1 ho h3, hl, h3, h4, h5⟩, ho.mono fun k _ hk => h5 k hk⟩
/-- behind an Append -/
theorem pair_app {S X : Nat → Prop} (hX : ∀ k, X k → k < w.heap.size) (h3 : ∀ k, S k → X k) (h4 : ∀ k, Y k → X k) (h5 : ∀ k, S k → ¬ Y k) (h : AppP T D X S l p g' d' w w') : Pair T D w' Y l p d' g' ∧ Only (fun k => ¬ Y k) w w' := by
  obtain ⟨N, n1, n2, n3, n4⟩ := h
  refine ⟨⟨_, _, n2, n3, fun k hk => hk.imp (h3 k) id, fun k hk => .inl (h4 k hk), fun k hk hy => hk.elim (fun h => h5 k h hy) fun h => ?_⟩, n4.mono fun k _ hk hy => hk.elim (fun h => h (h4 k hy)) fun h => h5 k h hy⟩
  have := hX k (h4 k hy)
  have := (n1 k h).1
  omega
/-! ### the program's log -/
theorem pair_append (K : DskP p D) (h : Pair 63 D w Y l p d g) (hg : Wl.Good d.B.length g) (ad : Option Addr) (lst : List ByteArray) (c : Nat) (hr : ReadsS w ad lst) (had : ∀ a, ad = some a → lst ≠ [] → Y a.block) (hlen : lst.length ≤ 1000)
    (hh : g.head + lst.length ≤ 1125900000000000) (hW : d.W.length + lst.length ≤ 1000000) :
    Calls Try.prog 20 #[.pointer (some ⟨l, 0, none⟩), .slice ad lst.length c] w fun e w' => e = .returned (.int .i64 (Wl.appE d g lst)) ∧ Pair 63 D w' Y l p (Wl.appD d g lst) (Wl.appG d g lst) ∧ Only (fun k => ¬ Y k) w w' := by
  obtain ⟨S, X, h1, h2, h3, h4, h5⟩ := h
  exact (wappend_any K h1 h2 h3 hg ad lst c hr (fun a ha hn => h4 _ (had a ha hn)) hlen hh hW).mono fun e w' ⟨e1, e2⟩ => ⟨e1, pair_app (K.lt h1) h3 h4 h5 e2⟩
theorem pair_trim {m : Nat} (K : Apart D) (h : Pair 63 D w Y l p d g) (hg : Wl.Good m g) (hh : g.head ≤ 1125900000000000) (t : Int) :
    Calls Try.prog 21 #[.pointer (some ⟨l, 0, none⟩), .int .i64 t] w fun e w' => e = .returned (.int .i64 (Wl.trimE g t)) ∧ Pair 63 D w' Y l p d (Wl.trimG g t) ∧ Only (fun k => ¬ Y k) w w' :=
  pair_own K h fun _ hl => wtrim_any hl hg hh t
theorem pair_tail (h : Pair 63 D w Y l p d g) : Calls Try.prog 13 #[.pointer (some ⟨l, 0, none⟩)] w fun e w' => e = .returned (.int .i64 (g.tail : Int)) ∧ w' = w := by
  obtain ⟨S, hl⟩ := pair_log h
  exact wtail_any hl
theorem pair_head (h : Pair 63 D w Y l p d g) : Calls Try.prog 14 #[.pointer (some ⟨l, 0, none⟩)] w fun e w' => e = .returned (.int .i64 (g.head : Int)) ∧ w' = w := by
  obtain ⟨S, hl⟩ := pair_log h
  exact whead_any hl
theorem pair_room {m : Nat} (h : Pair 63 D w Y l p d g) (hg : Wl.Good m g) (hm : m ≤ 4096) (hh : g.head ≤ 1125900000000000) : Calls Try.prog 15 #[.pointer (some ⟨l, 0, none⟩)] w fun e w' => e = .returned (.int .i64 ((g.n - g.L.length : Nat) : Int)) ∧ Below w.heap.size w w' := by
  obtain ⟨S, hl⟩ := pair_log h
  exact wroom_any hl hg hm hh
theorem pair_records (h : Pair 63 D w Y l p d g) (hL : g.L.length ≤ 1000000) : Calls Try.prog 18 #[.pointer (some ⟨l, 0, none⟩)] w (ClonedS g.L w) := by
  obtain ⟨S, hl⟩ := pair_log h
  exact wrecords_any hl hL
end
end Go.Proofs.Ytednmncapfclfaa
