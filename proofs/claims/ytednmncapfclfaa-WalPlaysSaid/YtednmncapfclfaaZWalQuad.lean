/-
  Layer 7's laws: WalPlays: each call of the one, of the other.
-/
import Derived.Test.YtednmncapfclfaaZWalWorld
namespace Go.Proofs.Ytednmncapfclfaa
open Go.RowKit
/-- both disks, both logs, each as it is -/
def Quad2 (w : World) (Y : Nat → Prop) (l x p q : Nat) (d e : Dk.D) (g g2 : Wl.Lg) : Prop := Pair 45 (Both l p q d g) w Y x q e g2
section
variable {w w' : World} {Y Z : Nat → Prop} {wp p q l x : Nat} {fr n : Int} {d e d' e' : Dk.D} {g g2 g' : Wl.Lg} {o : Option Wl.Lg}
theorem quad2_below (h : Quad2 w Y l x p q d e g g2) (hb : Below w.heap.size w w') : Quad2 w' Y l x p q d e g g2 := pair_below (both_apart l p q d g) h hb
theorem quad2_at (h : Quad2 w Y l x p q d e g g2) {F : Nat → Prop} (ho : Only F w w') (hF : ∀ k, F k → Y k) : Quad2 w' Y l x p q d e g g2 := pair_at (both_apart l p q d g) h ho hF
/-- a call of a disk -/
theorem quad_disk {f : FuncId} {args : Array Value} {Q : Ending → World → Prop} (h : Quad2 w Y l x p q d e g g2) (hc : ∀ X : Nat → Prop, Two w X p q d e → (∀ k, Y k → X k) → Calls Try.prog f args w fun en w' => Q en w' ∧ Two w' X p q d' e' ∧ Only (fun k => ¬ X k) w w') :
    Calls Try.prog f args w fun en w' => Q en w' ∧ Quad2 w' Y l x p q d' e' g g2 ∧ Only (fun k => ¬ Y k) w w' :=
  pair_lift (D' := Both l p q d' g) h fun _ hx hYX => pair_lift (D' := fun w X d => Two w X p q d e') hx fun Z hz hXZ => hc Z hz fun k hk => hXZ k (hYX k hk)
/-- a call of the program's log -/
theorem quad_wal {f : FuncId} {args : Array Value} {Q : Ending → World → Prop} (h : Quad2 w Y l x p q d e g g2) (hc : ∀ X : Nat → Prop, Both l p q d g w X e → (∀ k, Y k → X k) → Calls Try.prog f args w fun en w' => Q en w' ∧ Both l p q d' g' w' X e ∧ Only (fun k => ¬ X k) w w') :
    Calls Try.prog f args w fun en w' => Q en w' ∧ Quad2 w' Y l x p q d' e g' g2 ∧ Only (fun k => ¬ Y k) w w' :=
  pair_lift (D' := Both l p q d' g') h hc
abbrev Is (R : Ending) : Ending → World → Prop := fun en _ => en = R
theorem q_trim {m : Nat} (h : Quad2 w Y l x p q d e g g2) (hg : Wl.Good m g) (hh : g.head ≤ 1125900000000000) (t : Int) :
    Calls Try.prog 21 #[.pointer (some ⟨l, 0, none⟩), .int .i64 t] w fun en w' => en = .returned (.int .i64 (Wl.trimE g t)) ∧ Quad2 w' Y l x p q d e (Wl.trimG g t) g2 ∧ Only (fun k => ¬ Y k) w w' :=
  quad_wal (Q := Is _) h fun _ hx _ => pair_trim (dskP_two p q e).apart hx hg hh t
theorem q_rtrim {m : Nat} (h : Quad2 w Y l x p q d e g g2) (hg : Wl.Good m g2) (hh : g2.head ≤ 1125900000000000) (t : Int) :
    Calls Try.prog 26 #[.pointer (some ⟨x, 0, none⟩), .int .i64 t] w fun en w' => en = .returned (.int .i64 (Wl.trimE g2 t)) ∧ Quad2 w' Y l x p q d e g (Wl.trimG g2 t) ∧ Only (fun k => ¬ Y k) w w' :=
  pair_own (both_apart l p q d g) h fun _ hl => rtrim7_any hl hg hh t
theorem q_app (h : Quad2 w Y l x p q d e g g2) (hg : Wl.Good d.B.length g) (ad : Option Addr) (lst : List ByteArray) (c : Nat) (hr : ReadsS w ad lst) (had : ∀ a, ad = some a → lst ≠ [] → Y a.block) (hlen : lst.length ≤ 1000)
    (hh : g.head + lst.length ≤ 1125900000000000) (hW : d.W.length + lst.length ≤ 1000000) :
    Calls Try.prog 20 #[.pointer (some ⟨l, 0, none⟩), .slice ad lst.length c] w fun en w' => en = .returned (.int .i64 (Wl.appE d g lst)) ∧ Quad2 w' Y l x p q (Wl.appD d g lst) e (Wl.appG d g lst) g2 ∧ Only (fun k => ¬ Y k) w w' :=
  quad_wal (Q := Is _) h fun _ hx hY => pair_append (dskP_two p q e) hx hg ad lst c hr (fun a ha hn => hY _ (had a ha hn)) hlen hh hW
theorem q_rapp (h : Quad2 w Y l x p q d e g g2) (hg : Wl.Good e.B.length g2) (ad : Option Addr) (lst : List ByteArray) (c : Nat) (hr : ReadsS w ad lst) (had : ∀ a, ad = some a → lst ≠ [] → Y a.block) (hlen : lst.length ≤ 1000)
    (hh : g2.head + lst.length ≤ 1125900000000000) (hW : e.W.length + lst.length ≤ 1000000) :
    Calls Try.prog 33 #[.pointer (some ⟨x, 0, none⟩), .slice ad lst.length c] w fun en w' => en = .returned (.int .i64 (Wl.appE e g2 lst)) ∧ Quad2 w' Y l x p q d (Wl.appD e g2 lst) g (Wl.appG e g2 lst) ∧ Only (fun k => ¬ Y k) w w' := by
  obtain ⟨S, X, h1, h2, h3, h4, h5⟩ := h
  exact (rappend_any (dskR_both l p q d g) h1 h2 h3 hg ad lst c hr (fun a ha hn => h4 _ (had a ha hn)) hlen hh hW).mono fun en w' ⟨a1, a2⟩ => ⟨a1, pair_app (pair_lt (dskP_two p q e).apart h1) h3 h4 h5 a2⟩
theorem q_arm (h : Quad2 w Y l x p q d e g g2) (i : Int) (h1 : -9223372036854775808 ≤ i) (h2 : i ≤ 9223372036854775807) :
    Calls Try.prog 27 #[.pointer (some ⟨p, 0, none⟩), .int .i64 i] w fun en w' => en = .returned (.int .i64 (Dk.armE d)) ∧ Quad2 w' Y l x p q (Dk.arm d i) e g g2 ∧ Only (fun k => ¬ Y k) w w' :=
  quad_disk (Q := Is _) h fun _ hx _ => two_arm hx i h1 h2
theorem q_rarm (h : Quad2 w Y l x p q d e g g2) (i : Int) (h1 : -9223372036854775808 ≤ i) (h2 : i ≤ 9223372036854775807) :
    Calls Try.prog 28 #[.pointer (some ⟨q, 0, none⟩), .int .i64 i] w fun en w' => en = .returned (.int .i64 (Dk.armE e)) ∧ Quad2 w' Y l x p q d (Dk.arm e i) g g2 ∧ Only (fun k => ¬ Y k) w w' :=
  quad_disk (Q := Is _) h fun _ hx _ => two_rarm hx i h1 h2
theorem q_flush (h : Quad2 w Y l x p q d e g g2) :
    Calls Try.prog 22 #[.pointer (some ⟨p, 0, none⟩)] w fun en w' => en = .returned (.int .i64 (Dk.flushE d)) ∧ Quad2 w' Y l x p q (Dk.flush d) e g g2 ∧ Only (fun k => ¬ Y k) w w' :=
  quad_disk (Q := Is _) h fun _ hx _ => two_flush hx
theorem q_rflush (h : Quad2 w Y l x p q d e g g2) :
    Calls Try.prog 30 #[.pointer (some ⟨q, 0, none⟩)] w fun en w' => en = .returned (.int .i64 (Dk.flushE e)) ∧ Quad2 w' Y l x p q d (Dk.flush e) g g2 ∧ Only (fun k => ¬ Y k) w w' :=
  quad_disk (Q := Is _) h fun _ hx _ => two_rflush hx
theorem q_write (h : Quad2 w Y l x p q d e g g2) (i : Int) (s : ByteArray) (hW : d.W.length ≤ 1000000) :
    Calls Try.prog 31 #[.pointer (some ⟨p, 0, none⟩), .int .i64 i, .string s] w fun en w' => en = .returned (.int .i64 (Dk.writeE d i s)) ∧ Quad2 w' Y l x p q (Dk.write d i s) e g g2 ∧ Only (fun k => ¬ Y k) w w' :=
  quad_disk (Q := Is _) h fun _ hx _ => two_write hx i s hW
theorem q_rwrite (h : Quad2 w Y l x p q d e g g2) (i : Int) (s : ByteArray) (hW : e.W.length ≤ 1000000) :
    Calls Try.prog 32 #[.pointer (some ⟨q, 0, none⟩), .int .i64 i, .string s] w fun en w' => en = .returned (.int .i64 (Dk.writeE e i s)) ∧ Quad2 w' Y l x p q d (Dk.write e i s) g g2 ∧ Only (fun k => ¬ Y k) w w' :=
  quad_disk (Q := Is _) h fun _ hx _ => two_rwrite hx i s hW
theorem q_rcrash (h : Quad2 w Y l x p q d e g g2) (fa : Option Addr) (F : List Int) (fc : Nat) (hF : ReadsI w fa F) (hfa : ∀ a, fa = some a → F ≠ [] → Y a.block) :
    Calls Try.prog 29 #[.pointer (some ⟨q, 0, none⟩), .slice fa F.length fc] w fun en w' => en = .returned (.tuple #[]) ∧ Quad2 w' Y l x p q d (Dk.crash e F) g g2 ∧ Only (fun k => ¬ Y k) w w' :=
  quad_disk (Q := Is _) h fun _ hx hY => two_rcrash hx fa F fc hF fun a ha hn => hY _ (hfa a ha hn)
theorem q_crash (h : Quad2 w Y l x p q d e g g2) (fa : Option Addr) (F : List Int) (fc : Nat) (hF : ReadsI w fa F) (hfa : ∀ a, fa = some a → F ≠ [] → Y a.block) :
    Calls Try.prog 23 #[.pointer (some ⟨p, 0, none⟩), .slice fa F.length fc] w fun en w' => en = .returned (.int .i64 0) ∧ Quad2 w' Y l x p q (Dk.crash d F) e g g2 ∧ Only (fun k => ¬ Y k) w w' :=
  quad_disk (Q := Is _) h fun _ hx hY => two_crash hx fa F fc hF fun a ha hn => hY _ (hfa a ha hn)
/-! ### how much there is -/
structure Bnd (m k : Nat) (d : Dk.D) (o : Option Wl.Lg) : Prop where
  blocks : d.B.length = m
  loose : d.W.length ≤ 20 * k
  log : ∀ g, o = some g → Wl.Good m g ∧ g.head ≤ 1125899906842624 + 20 * k
variable {m k : Nat}
theorem bnd_trim (h : Bnd m k d (some g)) (t : Int) : Bnd m (k + 1) d (some (Wl.trimG g t)) := by
  obtain ⟨h1, h2⟩ := h.log g rfl
  obtain ⟨h3, h4⟩ := Wl.trimG_good t h1
  exact ⟨h.blocks, by have := h.loose; omega, fun g' hg => by cases hg; exact ⟨h3, by omega⟩⟩
theorem bnd_more (h : Bnd m k d o) : Bnd m (k + 1) d o := ⟨h.blocks, by have := h.loose; omega, fun g' hg => ⟨(h.log g' hg).1, by have := (h.log g' hg).2; omega⟩⟩
theorem bnd_open {fr n t hd : Int} (h : Bnd m k d o) : Bnd m (k + 1) d (openO d fr n t hd o) := by
  unfold openO
  by_cases hE : Wl.openE d fr n t hd = 0
  · rw [if_pos hE]
    refine ⟨h.blocks, by have := h.loose; omega, fun g' hg => ?_⟩
    cases hg
    have hb : ¬ Wl.isBad d.B.length fr n t hd := fun hb => by unfold Wl.openE at hE; rw [if_pos hb] at hE; cases hE
    obtain ⟨h1, h2⟩ := Wl.openG_good hb
    rw [h.blocks] at h1
    exact ⟨h1, by omega⟩
  · rw [if_neg hE]; exact bnd_more h
theorem bnd_disk (h : Bnd m k d o) (hB : d'.B.length = d.B.length) (hW : d'.W.length ≤ d.W.length + 1) : Bnd m (k + 1) d' o :=
  ⟨hB.trans h.blocks, by have := h.loose; omega, fun g' hg => ⟨(h.log g' hg).1, by have := (h.log g' hg).2; omega⟩⟩
theorem bnd_none (h : Bnd m k d o) (hB : d'.B.length = d.B.length) (hW : d'.W.length ≤ d.W.length + 1) {fr n t hd : Int} : Bnd m (k + 1) d' (openO d' fr n t hd none) := by
  have h1 : Bnd m (k + 1) d' none := ⟨hB.trans h.blocks, by have := h.loose; omega, fun g' hg => by cases hg⟩
  unfold openO
  by_cases hE : Wl.openE d' fr n t hd = 0
  · rw [if_pos hE]
    refine ⟨h1.blocks, h1.loose, fun g' hg => ?_⟩
    cases hg
    have hb : ¬ Wl.isBad d'.B.length fr n t hd := fun hb => by unfold Wl.openE at hE; rw [if_pos hb] at hE; cases hE
    obtain ⟨h2, h3⟩ := Wl.openG_good hb
    rw [h1.blocks] at h2
    exact ⟨h2, by omega⟩
  · rw [if_neg hE]; exact h1
theorem bnd_app (h : Bnd m k d (some g)) (lst : List ByteArray) (hl : lst.length ≤ 20) : Bnd m (k + 1) (Wl.appD d g lst) (some (Wl.appG d g lst)) := by
  obtain ⟨h1, h2⟩ := h.log g rfl
  obtain ⟨h3, h4⟩ := Wl.appG_good (d := d) lst h1
  have h5 := Wl.appD_W d g lst
  have h6 := Wl.appD_B d g lst
  exact ⟨h6.trans h.blocks, by have := h.loose; omega, fun g' hg => by cases hg; exact ⟨h3, by omega⟩⟩
theorem arm_B (d : Dk.D) (i : Int) : (Dk.arm d i).B.length = d.B.length ∧ (Dk.arm d i).W.length ≤ d.W.length + 1 := by unfold Dk.arm; split <;> exact ⟨rfl, by show d.W.length ≤ _; omega⟩
theorem flush_B (d : Dk.D) : (Dk.flush d).B.length = d.B.length ∧ (Dk.flush d).W.length ≤ d.W.length + 1 := by
  unfold Dk.flush
  split
  · exact ⟨rfl, by omega⟩
  · split
    · exact ⟨rfl, by show d.W.length ≤ _; omega⟩
    · exact ⟨Dk.over_len _ _, by show 0 ≤ _; omega⟩
theorem crash_B (d : Dk.D) (F : List Int) : (Dk.crash d F).B.length = d.B.length ∧ (Dk.crash d F).W.length ≤ d.W.length + 1 := ⟨Dk.crashK_len _ _ _ _, by show 0 ≤ _; omega⟩
theorem put_B (d : Dk.D) (i : Int) (s : ByteArray) : (Dk.write d i s).B.length = d.B.length ∧ (Dk.write d i s).W.length ≤ d.W.length + 1 := ⟨congrArg List.length (Wl.write_B d i s), Wl.write_W d i s⟩
end
end Go.Proofs.Ytednmncapfclfaa
