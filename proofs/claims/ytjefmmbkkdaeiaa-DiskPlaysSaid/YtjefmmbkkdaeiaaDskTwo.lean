/-
  Layer 4's laws: the program's disk and the document's, side by side.
-/
import Derived.Test.YtjefmmbkkdaeiaaDskActs
import Derived.Test.YtjefmmbkkdaeiaaDskLives
import Derived.Test.YtjefmmbkkdaeiaaRefNew
import Derived.Test.YtjefmmbkkdaeiaaRefRead
import Derived.Deep.RegionHeld3
namespace Go.Proofs.Ytjefmmbkkdaeiaa
open Go.RowKit
/-- both disks, apart from each other and from what X names -/
def Two (w : World) (X : Nat → Prop) (p q : Nat) (d e : Dk.D) : Prop := ∃ Sd Sr : Nat → Prop, DiskAtL w Sd Sd p d ∧ RefAt w Sr q e ∧ (∀ k, Sd k → Sr k → False) ∧ (∀ k, Sd k → ¬ X k ∧ k < w.heap.size) ∧ (∀ k, Sr k → ¬ X k ∧ k < w.heap.size) ∧ ∀ k, X k → k < w.heap.size
theorem diskAtL_mono {S S' L L' : Nat → Prop} {w : World} {p : Nat} {d : Dk.D} (h : DiskAtL w S L p d) (hs : ∀ k, k < w.heap.size → S k → S' k) (hl : ∀ k, k < w.heap.size → L k → L' k) : DiskAtL w S' L' p d := by
  obtain ⟨_, _, _, _, _, _, h, hL⟩ := h
  exact ⟨_, _, _, _, _, _, diskIn_mono h hs, fun a ha => hl _ (looseAt_lt h.loose a ha) (hL a ha)⟩
theorem diskAtL_only {F S L : Nat → Prop} {w w' : World} {p : Nat} {d : Dk.D} (h : DiskAtL w S L p d) (ho : Only F w w') (h1 : ∀ k, S k → ¬ F k) (h2 : ∀ k, L k → ¬ F k) : DiskAtL w' S L p d := by
  obtain ⟨_, _, _, _, _, _, h, hL⟩ := h
  exact ⟨_, _, _, _, _, _, diskIn_only h ho (h1 _ h.sp) (h1 _ h.sn) (h1 _ h.sk) (fun a ha => h2 _ (hL a ha)), hL⟩
section
variable {w : World} {X : Nat → Prop} {p q : Nat} {d e : Dk.D}
theorem two_less {Y : Nat → Prop} (h : Two w X p q d e) (hY : ∀ k, Y k → X k) : Two w Y p q d e := by
  obtain ⟨Sd, Sr, h1, h2, h3, h4, h5, h6⟩ := h
  exact ⟨Sd, Sr, h1, h2, h3, fun k hk => ⟨fun hy => (h4 k hk).1 (hY k hy), (h4 k hk).2⟩, fun k hk => ⟨fun hy => (h5 k hk).1 (hY k hy), (h5 k hk).2⟩, fun k hk => h6 k (hY k hk)⟩
/-- a step that turns nothing that was there, and what it names from there on -/
theorem two_below {w' : World} (h : Two w X p q d e) (hb : Below w.heap.size w w') : Two w' X p q d e := by
  obtain ⟨Sd, Sr, h1, h2, h3, h4, h5, h6⟩ := h
  have ho : Only (fun _ => False) w w' := Only.of_none hb
  exact ⟨Sd, Sr, diskAtL_only h1 ho (fun _ _ h => h) (fun _ _ h => h), refAt_only h2 ho (fun _ _ _ h => h), h3, fun k hk => ⟨(h4 k hk).1, Nat.lt_of_lt_of_le (h4 k hk).2 hb.size⟩, fun k hk => ⟨(h5 k hk).1, Nat.lt_of_lt_of_le (h5 k hk).2 hb.size⟩, fun k hk => Nat.lt_of_lt_of_le (h6 k hk) hb.size⟩
/-- a block more that both leave alone -/
theorem two_more {w' : World} (h : Two w X p q d e) (hb : Below w.heap.size w w') (hw : w.heap.size < w'.heap.size) : Two w' (fun k => X k ∨ k = w.heap.size) p q d e := by
  have h' := two_below h hb
  obtain ⟨Sd, Sr, h1, h2, h3, h4, h5, h6⟩ := h
  have ho : Only (fun _ => False) w w' := Only.of_none hb
  refine ⟨Sd, Sr, diskAtL_only h1 ho (fun _ _ h => h) (fun _ _ h => h), refAt_only h2 ho (fun _ _ _ h => h), h3, fun k hk => ⟨fun hx => hx.elim (h4 k hk).1 fun e => ?_, Nat.lt_of_lt_of_le (h4 k hk).2 hb.size⟩, fun k hk => ⟨fun hx => hx.elim (h5 k hk).1 fun e => ?_, Nat.lt_of_lt_of_le (h5 k hk).2 hb.size⟩, fun k hk => hk.elim (fun hx => Nat.lt_of_lt_of_le (h6 k hx) hb.size) fun e => by omega⟩
  · have := (h4 k hk).2; omega
  · have := (h5 k hk).2; omega
/-- a call of the program's disk, the document's let be -/
theorem two_prog (h : Two w X p q d e) {f : FuncId} {args : Array Value} {R : Ending} {d' : Dk.D}
    (hc : ∀ S : Nat → Prop, DiskAtL w S S p d → (∀ k, w.heap.size ≤ k → S k) → (∀ k, S k → ¬ X k) → Calls Try.prog f args w fun en w' => en = R ∧ DiskAtL w' S S p d' ∧ Only S w w') :
    Calls Try.prog f args w fun en w' => en = R ∧ Two w' X p q d' e ∧ Only (fun k => ¬ X k) w w' := by
  obtain ⟨Sd, Sr, h1, h2, h3, h4, h5, h6⟩ := h
  have hX : ∀ k, (Sd k ∨ w.heap.size ≤ k) → ¬ X k := fun k hk hx => hk.elim (fun hs => (h4 k hs).1 hx) fun hs => by have := h6 k hx; omega
  refine (hc (fun k => Sd k ∨ w.heap.size ≤ k) (diskAtL_mono h1 (fun _ _ h => .inl h) (fun _ _ h => .inl h)) (fun _ h => .inr h) hX).mono fun en w' ⟨e1, hd, ho⟩ => ⟨e1, ?_, ho.mono fun k _ hk => hX k hk⟩
  refine ⟨fun k => (Sd k ∨ w.heap.size ≤ k) ∧ k < w'.heap.size, Sr, diskAtL_mono hd (fun k hk hs => ⟨hs, hk⟩) (fun k hk hs => ⟨hs, hk⟩), refAt_only h2 ho fun k hk hr hs => hs.elim (fun hs => h3 k hs hr) fun hs => by omega, ?_, fun k hk => ⟨hX k hk.1, hk.2⟩, fun k hk => ⟨(h5 k hk).1, Nat.lt_of_lt_of_le (h5 k hk).2 ho.size⟩, fun k hk => Nat.lt_of_lt_of_le (h6 k hk) ho.size⟩
  exact fun k hk hr => hk.1.elim (fun hs => h3 k hs hr) fun hs => by have := (h5 k hr).2; omega
/-- a call of the document's disk, the program's let be -/
theorem two_ref (h : Two w X p q d e) {f : FuncId} {args : Array Value} {R : Ending} {e' : Dk.D}
    (hc : ∀ S : Nat → Prop, RefAt w S q e → (∀ k, w.heap.size ≤ k → S k) → (∀ k, S k → ¬ X k) → Calls Try.prog f args w fun en w' => en = R ∧ RefAt w' S q e' ∧ Only S w w') :
    Calls Try.prog f args w fun en w' => en = R ∧ Two w' X p q d e' ∧ Only (fun k => ¬ X k) w w' := by
  obtain ⟨Sd, Sr, h1, h2, h3, h4, h5, h6⟩ := h
  have hX : ∀ k, (Sr k ∨ w.heap.size ≤ k) → ¬ X k := fun k hk hx => hk.elim (fun hs => (h5 k hs).1 hx) fun hs => by have := h6 k hx; omega
  have hA : ∀ k, Sd k → ¬ (Sr k ∨ w.heap.size ≤ k) := fun k hk hs => hs.elim (fun hs => h3 k hk hs) fun hs => by have := (h4 k hk).2; omega
  refine (hc (fun k => Sr k ∨ w.heap.size ≤ k) (refAt_mono h2 (fun _ _ h => .inl h)) (fun _ h => .inr h) hX).mono fun en w' ⟨e1, hd, ho⟩ => ⟨e1, ?_, ho.mono fun k _ hk => hX k hk⟩
  refine ⟨Sd, fun k => (Sr k ∨ w.heap.size ≤ k) ∧ k < w'.heap.size, diskAtL_only h1 ho hA hA, refAt_mono hd (fun k hk hs => ⟨hs, hk⟩), fun k hk hr => hA k hk hr.1, fun k hk => ⟨(h4 k hk).1, Nat.lt_of_lt_of_le (h4 k hk).2 ho.size⟩, fun k hk => ⟨hX k hk.1, hk.2⟩, fun k hk => Nat.lt_of_lt_of_le (h6 k hk) ho.size⟩
theorem two_write (h : Two w X p q d e) (i : Int) (s : ByteArray) (hW : d.W.length ≤ 1000000) :
    Calls Try.prog 13 #[.pointer (some ⟨p, 0, none⟩), .int .i64 i, .string s] w fun en w' => en = .returned (.int .i64 (Dk.writeE d i s)) ∧ Two w' X p q (Dk.write d i s) e ∧ Only (fun k => ¬ X k) w w' :=
  two_prog h fun _ hd hS _ => write_upL hd hS (fun _ h => h) i s hW
theorem two_flush (h : Two w X p q d e) :
    Calls Try.prog 15 #[.pointer (some ⟨p, 0, none⟩)] w fun en w' => en = .returned (.int .i64 (Dk.flushE d)) ∧ Two w' X p q (Dk.flush d) e ∧ Only (fun k => ¬ X k) w w' :=
  two_prog h fun _ hd _ _ => flush_upL hd (fun _ h => h)
theorem two_arm (h : Two w X p q d e) (n : Int) (h1 : -9223372036854775808 ≤ n) (h2 : n ≤ 9223372036854775807) :
    Calls Try.prog 21 #[.pointer (some ⟨p, 0, none⟩), .int .i64 n] w fun en w' => en = .returned (.int .i64 (Dk.armE d)) ∧ Two w' X p q (Dk.arm d n) e ∧ Only (fun k => ¬ X k) w w' :=
  two_prog h fun _ hd _ _ => arm_upL hd n h1 h2
theorem two_crash (h : Two w X p q d e) (fa : Option Addr) (F : List Int) (fc : Nat) (hF : ReadsI w fa F) (hfa : ∀ a, fa = some a → F ≠ [] → X a.block) :
    Calls Try.prog 16 #[.pointer (some ⟨p, 0, none⟩), .slice fa F.length fc] w fun en w' => en = .returned (.int .i64 0) ∧ Two w' X p q (Dk.crash d F) e ∧ Only (fun k => ¬ X k) w w' :=
  two_prog h fun _ hd hS hX => crash_upL hd hS (fun _ h => h) fa F fc hF fun a ha hne hs => hX _ hs (hfa a ha hne)
theorem two_read (h : Two w X p q d e) (i : Int) : Calls Try.prog 17 #[.pointer (some ⟨p, 0, none⟩), .int .i64 i] w fun en w' => en = .returned (.tuple #[.string (Dk.readS d i), .int .i64 (Dk.readE d i)]) ∧ w' = w := by
  obtain ⟨_, _, h1, _⟩ := h
  exact read_up (atL_at h1) i
theorem two_len (h : Two w X p q d e) : Calls Try.prog 20 #[.pointer (some ⟨p, 0, none⟩)] w fun en w' => en = .returned (.int .i64 (d.B.length : Int)) ∧ w' = w := by
  obtain ⟨_, _, h1, _⟩ := h
  exact len_up (atL_at h1)
theorem two_loose (h : Two w X p q d e) : Calls Try.prog 11 #[.pointer (some ⟨p, 0, none⟩)] w fun en w' => en = .returned (.int .i64 (d.W.length : Int)) ∧ w' = w := by
  obtain ⟨_, _, h1, _⟩ := h
  exact loose_up (atL_at h1)
theorem two_rwrite (h : Two w X p q d e) (i : Int) (s : ByteArray) (hW : e.W.length ≤ 1000000) :
    Calls Try.prog 22 #[.pointer (some ⟨q, 0, none⟩), .int .i64 i, .string s] w fun en w' => en = .returned (.int .i64 (Dk.writeE e i s)) ∧ Two w' X p q d (Dk.write e i s) ∧ Only (fun k => ¬ X k) w w' :=
  two_ref h fun _ ⟨_, _, _, _, hr⟩ hS _ => rwrite_any hr hS i s hW
theorem two_rflush (h : Two w X p q d e) :
    Calls Try.prog 24 #[.pointer (some ⟨q, 0, none⟩)] w fun en w' => en = .returned (.int .i64 (Dk.flushE e)) ∧ Two w' X p q d (Dk.flush e) ∧ Only (fun k => ¬ X k) w w' :=
  two_ref h fun _ ⟨_, _, _, _, hr⟩ _ _ => rflush_any hr
theorem refIn_arm {S : Nat → Prop} {cb cw : Nat} {lb lw : Option Addr} (h : RefIn w S q cb cw lb lw e) (n : Int) (h1 : -9223372036854775808 ≤ n) (h2 : n ≤ 9223372036854775807) {w' : World} (hh : RHead w' q cb cw lb lw (Dk.arm e n)) (ho : Only (fun k => k = q) w w') : RefIn w' S q cb cw lb lw (Dk.arm e n) := by
  have eB : (Dk.arm e n).B = e.B := by unfold Dk.arm; split <;> rfl
  have eW : (Dk.arm e n).W = e.W := by unfold Dk.arm; split <;> rfl
  refine ⟨Dk.arm_ok h.ok n h1 h2, hh, ?_, ?_, h.sq⟩
  · rw [eB]
    refine listAt_only h.blocks ho fun a ha => ?_
    obtain ⟨g, rfl, _, _, h3⟩ := listAt_block h.blocks a ha
    exact h3
  · rw [eW]
    refine listAt_only h.loose ho fun a ha => ?_
    obtain ⟨g, rfl, _, _, h3⟩ := listAt_block h.loose a ha
    exact fun e => h3 (.inl e)
theorem two_rarm (h : Two w X p q d e) (n : Int) (h1 : -9223372036854775808 ≤ n) (h2 : n ≤ 9223372036854775807) :
    Calls Try.prog 25 #[.pointer (some ⟨q, 0, none⟩), .int .i64 n] w fun en w' => en = .returned (.int .i64 (Dk.armE e)) ∧ Two w' X p q d (Dk.arm e n) ∧ Only (fun k => ¬ X k) w w' :=
  two_ref h fun _ ⟨_, _, _, _, hr⟩ _ _ => (rarm_any hr.head n).mono fun _ _ ⟨e1, hh, ho⟩ => ⟨e1, ⟨_, _, _, _, refIn_arm hr n h1 h2 hh ho⟩, ho.mono fun _ _ e => e ▸ hr.sq⟩
theorem two_rcrash (h : Two w X p q d e) (fa : Option Addr) (F : List Int) (fc : Nat) (hF : ReadsI w fa F) (hfa : ∀ a, fa = some a → F ≠ [] → X a.block) :
    Calls Try.prog 26 #[.pointer (some ⟨q, 0, none⟩), .slice fa F.length fc] w fun en w' => en = .returned (.tuple #[]) ∧ Two w' X p q d (Dk.crash e F) ∧ Only (fun k => ¬ X k) w w' :=
  two_ref h fun _ ⟨_, _, _, _, hr⟩ _ hX => rcrash_any hr fa F fc hF fun a ha hne hs => hX _ hs (hfa a ha hne)
theorem two_rread (h : Two w X p q d e) (i : Int) : Calls Try.prog 23 #[.pointer (some ⟨q, 0, none⟩), .int .i64 i] w fun en w' => en = .returned (.tuple #[.string (Dk.readS e i), .int .i64 (Dk.readE e i)]) ∧ w' = w := by
  obtain ⟨_, _, _, ⟨_, _, _, _, hr⟩, _⟩ := h
  exact rread_any hr i
/-- the document's disk's two lengths, as they are loaded -/
theorem two_cells (h : Two w X p q d e) : ∃ lb cb lw cw, w.cell? ⟨q, 0, none⟩ = some (.slice lb e.B.length cb) ∧ w.cell? ⟨q, 1, none⟩ = some (.slice lw e.W.length cw) := by
  obtain ⟨_, _, _, ⟨_, _, _, _, hr⟩, _⟩ := h
  exact ⟨_, _, _, _, rhead_B hr.head, rhead_W hr.head⟩
end
end Go.Proofs.Ytjefmmbkkdaeiaa
