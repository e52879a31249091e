/-
  Texts of the layers, part 6: LblRwrite, LblLives, DskNil, LblLaws, LblBack, LblOne, DskOpen.
-/
import Derived.Test.YtedemehlccmkpaaPk4
import Derived.Test.YtedemehlccmkpaaPk5
import Derived.Laws.StructEq
import Derived.Deep.Slices
import Derived.ChangeSlices
import Derived.ChangeArms
/-
  Layer 6: what the document's Write does to its disk.
-/
namespace Go.Proofs.Ytedemehlccmkpaa
open Go.RowKit
section
variable {w : World} {S : Nat → Prop} {q : Nat} {d : Dk.D}
theorem refAt_below {w' : World} (h : RefAt w S q d) (hb : Below w.heap.size w w') : RefAt w' S q d := refAt_only h (Only.of_none (F := fun _ => False) hb) fun _ _ _ h => h
theorem refAt_ok (h : RefAt w S q d) : Dk.Ok d := by
  obtain ⟨_, _, _, _, h⟩ := h
  exact h.ok
theorem refAt_reads (h : RefAt w S q d) : ReadsR w (.pointer (some ⟨q, 0, none⟩)) (Dk.readS d) (Dk.readE d) := fun _ hb i => by
  obtain ⟨_, _, _, _, hr⟩ := refAt_below h hb
  exact rread_any hr i
theorem rlnext_up (h : RefAt w S q d) : Calls Try.prog 38 #[.pointer (some ⟨q, 0, none⟩)] w fun e w' => e = .returned (.tuple #[.int .i64 (Lb.next d).1, .int .i64 (Lb.next d).2.1, .int .i64 (Lb.next d).2.2]) ∧ Below w.heap.size w w' :=
  rnext6_any (refAt_reads h) (readS_size (refAt_ok h) 0) (readS_size (refAt_ok h) 1) (readE_six d 0) (readE_six d 1)
theorem rlread_up (h : RefAt w S q d) : Calls Try.prog 48 #[.pointer (some ⟨q, 0, none⟩)] w fun e w' => e = .returned (.tuple #[labV (Lb.read d).1, .int .i64 (Lb.read d).2]) ∧ Below w.heap.size w w' :=
  rread6_any (refAt_reads h) (readS_size (refAt_ok h) 0) (readS_size (refAt_ok h) 1)
theorem rwrite_upR (h : RefAt w S q d) (hS : ∀ k, w.heap.size ≤ k → S k) (i : Int) (s : ByteArray) (hW : d.W.length ≤ 1000000) :
    Calls Try.prog 18 #[.pointer (some ⟨q, 0, none⟩), .int .i64 i, .string s] w fun en w' => en = .returned (.int .i64 (Dk.writeE d i s)) ∧ RefAt w' S q (Dk.write d i s) ∧ Only S w w' := by
  obtain ⟨_, _, _, _, hr⟩ := h
  exact rwrite_any hr hS i s hW
theorem rflush_upR (h : RefAt w S q d) :
    Calls Try.prog 24 #[.pointer (some ⟨q, 0, none⟩)] w fun en w' => en = .returned (.int .i64 (Dk.flushE d)) ∧ RefAt w' S q (Dk.flush d) ∧ Only S w w' := by
  obtain ⟨_, _, _, _, hr⟩ := h
  exact rflush_any hr
set_option maxRecDepth 100000 in
set_option maxHeartbeats 1600000 in
theorem rlwrite_a (h : RefAt w S q d) (_hS : ∀ k, w.heap.size ≤ k → S k) (l : Lb.Label) (_hW : d.W.length ≤ 1000000) (hF : (Lb.next d).2.2 ≠ 0) :
    Calls Try.prog 16 #[.pointer (some ⟨q, 0, none⟩), labV l] w fun e w' => e = .returned (.int .i64 (Lb.next d).2.2) ∧ RefAt w' S q d ∧ Only S w w' := by
  have cN : ∀ w', Below w.heap.size w w' → Calls Try.prog 38 #[.pointer (some ⟨q, 0, none⟩)] w' fun e w'' => e = .returned (.tuple #[.int .i64 (Lb.next d).1, .int .i64 (Lb.next d).2.1, .int .i64 (Lb.next d).2.2]) ∧ Below w'.heap.size w' w'' := fun w' hb => rlnext_up (refAt_below h hb)
  obtain ⟨hb, hlt, hrow⟩ := lab_box l w
  generalize (Lb.next d).1 = at_ at *
  generalize (Lb.next d).2.1 = n at *
  generalize (Lb.next d).2.2 = F at *
  have q1 : (F != 0) = true := by simpa using hF
  obtain ⟨lt, la, lh, ln⟩ := l
  have H := Lib.hid (And.intro cN (And.intro hb (And.intro hlt hrow)))
  have HD := Lib.hid h
  clear cN hb hlt hrow h hF
  go_enter Try.func16, Try.ntmps16
  go_wp2_with fail
  refine (H.out.1 _ H.out.2.1).mono ?_
  rintro e w2 ⟨rfl, hb2⟩
  obtain ⟨c0, c1, c2, c3, f0, f1, f2, f3, hr⟩ := lab_below (l := ⟨lt, la, lh, ln⟩) H.out.2.2.2 hb2 H.out.2.2.1
  have hB2 : Below w.heap.size w w2 := H.out.2.1.trans (hb2.mono H.out.2.1.size)
  have hr3 := rowV_stored hr 0 (.int .i64 n)
  have K := Lib.hid (And.intro (hB2.setCell (p := ⟨w.heap.size, 0, none⟩) (Nat.le_refl _) (.int .i64 n)) hr3)
  clear hb2 hB2 hr hr3
  go_wp2_with fail
  go_ret
  exact ⟨rfl, refAt_below HD.out K.out.1, Only.of_none K.out.1⟩
set_option maxRecDepth 100000 in
set_option maxHeartbeats 1600000 in
theorem rlwrite_b (h : RefAt w S q d) (hS : ∀ k, w.heap.size ≤ k → S k) (l : Lb.Label) (hW : d.W.length ≤ 1000000) (hF : (Lb.next d).2.2 = 0) (hr : ¬ Lb.right (Lb.at_ l (Lb.next d).2.1)) :
    Calls Try.prog 16 #[.pointer (some ⟨q, 0, none⟩), labV l] w fun e w' => e = .returned (.int .i64 2) ∧ RefAt w' S q d ∧ Only S w w' := by
  have cN : ∀ w', Below w.heap.size w w' → Calls Try.prog 38 #[.pointer (some ⟨q, 0, none⟩)] w' fun e w'' => e = .returned (.tuple #[.int .i64 (Lb.next d).1, .int .i64 (Lb.next d).2.1, .int .i64 (Lb.next d).2.2]) ∧ Below w'.heap.size w' w'' := fun w' hb => rlnext_up (refAt_below h hb)
  obtain ⟨hb, hlt, hrow⟩ := lab_box l w
  have cR := fun w => rright6_any (Lb.at_ l (Lb.next d).2.1) w
  rw [decide_eq_false hr] at cR
  rw [hF] at cN
  obtain ⟨lt, la, lh, ln⟩ := l
  generalize (Lb.next d).1 = at_ at *
  generalize (Lb.next d).2.1 = n at *
  have H := Lib.hid (And.intro cN (And.intro hb (And.intro hlt hrow)))
  have HD := Lib.hid (And.intro h (And.intro hS hW))
  have HR := Lib.hid cR
  clear cN cR hb hlt hrow h hS hW hr hF
  go_enter Try.func16, Try.ntmps16
  go_wp2_with fail
  refine (H.out.1 _ H.out.2.1).mono ?_
  rintro e w2 ⟨rfl, hb2⟩
  obtain ⟨c0, c1, c2, c3, f0, f1, f2, f3, hr⟩ := lab_below (l := ⟨lt, la, lh, ln⟩) H.out.2.2.2 hb2 H.out.2.2.1
  have hB2 : Below w.heap.size w w2 := H.out.2.1.trans (hb2.mono H.out.2.1.size)
  have hr3 := rowV_stored hr 0 (.int .i64 n)
  have K := Lib.hid (And.intro (hB2.setCell (p := ⟨w.heap.size, 0, none⟩) (Nat.le_refl _) (.int .i64 n)) hr3)
  clear hb2 hB2 hr hr3
  go_wp2_with fail
  generalize hw3 : World.setCell _ _ _ = w3 at *
  refine (HR.out _).mono ?_
  rintro e w4 ⟨rfl, hb4⟩
  obtain ⟨c0, c1, c2, c3, -, -, -, -, -⟩ := lab_below (l := ⟨n, la, lh, ln⟩) K.out.2 hb4 (rowV_lt K.out.2)
  have L4 := Lib.hid (K.out.1.trans (hb4.mono K.out.1.size))
  clear hb4
  go_wp2_with fail
  go_ret
  exact ⟨rfl, refAt_below HD.out.1 L4.out, Only.of_none L4.out⟩
set_option maxRecDepth 100000 in
set_option maxHeartbeats 1600000 in
theorem rlwrite_c (h : RefAt w S q d) (hS : ∀ k, w.heap.size ≤ k → S k) (l : Lb.Label) (hW : d.W.length ≤ 1000000) (hF : (Lb.next d).2.2 = 0) (hr : Lb.right (Lb.at_ l (Lb.next d).2.1)) (hw : Lb.wroteE d l ≠ 0) :
    Calls Try.prog 16 #[.pointer (some ⟨q, 0, none⟩), labV l] w fun e w' => e = .returned (.int .i64 (Lb.wroteE d l)) ∧ RefAt w' S q (Lb.wrote d l) ∧ Only S w w' := by
  have cN : ∀ w', Below w.heap.size w w' → Calls Try.prog 38 #[.pointer (some ⟨q, 0, none⟩)] w' fun e w'' => e = .returned (.tuple #[.int .i64 (Lb.next d).1, .int .i64 (Lb.next d).2.1, .int .i64 (Lb.next d).2.2]) ∧ Below w'.heap.size w' w'' := fun w' hb => rlnext_up (refAt_below h hb)
  obtain ⟨hb, hlt, hrow⟩ := lab_box l w
  have cR := fun w => rright6_any (Lb.at_ l (Lb.next d).2.1) w
  have cT := fun w => rtext6_any (Lb.at_ l (Lb.next d).2.1) hr w
  have et : Lb.text (Lb.at_ l (Lb.next d).2.1) = Lb.text l := rfl
  have cP := fun w => rput5_any (Lb.next d).2.1 (Lb.text l) (by have := Lb.text_size hr; show (Lb.text (Lb.at_ l (Lb.next d).2.1)).size ≤ maxLen; unfold maxLen; omega) w
  have ep : Sl.putE (Lb.next d).2.1 (Lb.text l) = 0 := Lb.put_ok hr
  rw [ep] at cP
  rw [et] at cT
  have ew : Lb.wroteE d l = Dk.writeE d (Lb.next d).1 (Sl.putB (Lb.next d).2.1 (Lb.text l)) := rfl
  have ed : Lb.wrote d l = Dk.write d (Lb.next d).1 (Sl.putB (Lb.next d).2.1 (Lb.text l)) := rfl
  rw [decide_eq_true hr] at cR
  rw [hF] at cN
  have cW : ∀ w', Below w.heap.size w w' → Calls Try.prog 18 #[.pointer (some ⟨q, 0, none⟩), .int .i64 (Lb.next d).1, .string (Sl.putB (Lb.next d).2.1 (Lb.text l))] w' fun e w'' => e = .returned (.int .i64 (Lb.wroteE d l)) ∧ RefAt w'' S q (Lb.wrote d l) ∧ Only S w' w'' := fun w' hb' => by
    rw [ew, ed]; exact rwrite_upR (refAt_below h hb') (fun k hk => hS k (Nat.le_trans hb'.size hk)) _ _ hW
  obtain ⟨lt, la, lh, ln⟩ := l
  clear ew ed et
  generalize Lb.wroteE d (Lb.Label.mk lt la lh ln) = WE at *
  generalize Lb.wrote d (Lb.Label.mk lt la lh ln) = WD at *
  generalize Sl.putB (Lb.next d).2.1 (Lb.text (Lb.Label.mk lt la lh ln)) = Q at *
  generalize Lb.text (Lb.Label.mk lt la lh ln) = T at *
  generalize (Lb.next d).1 = at_ at *
  generalize (Lb.next d).2.1 = n at *
  have H := Lib.hid (And.intro cN (And.intro hb (And.intro hlt hrow)))
  have HD := Lib.hid (And.intro h (And.intro hS hW))
  have HR := Lib.hid cR
  have HC := Lib.hid (And.intro cT (And.intro cP cW))
  have q1 : (WE != 0) = true := by simpa using hw
  clear cN cR cT cP cW hb hlt hrow h hS hW hr hF hw ep
  go_enter Try.func16, Try.ntmps16
  go_wp2_with fail
  refine (H.out.1 _ H.out.2.1).mono ?_
  rintro e w2 ⟨rfl, hb2⟩
  obtain ⟨c0, c1, c2, c3, f0, f1, f2, f3, hr⟩ := lab_below (l := ⟨lt, la, lh, ln⟩) H.out.2.2.2 hb2 H.out.2.2.1
  have hB2 : Below w.heap.size w w2 := H.out.2.1.trans (hb2.mono H.out.2.1.size)
  have hr3 := rowV_stored hr 0 (.int .i64 n)
  have K := Lib.hid (And.intro (hB2.setCell (p := ⟨w.heap.size, 0, none⟩) (Nat.le_refl _) (.int .i64 n)) hr3)
  clear hb2 hB2 hr hr3
  go_wp2_with fail
  generalize hw3 : World.setCell _ _ _ = w3 at *
  refine (HR.out _).mono ?_
  rintro e w4 ⟨rfl, hb4⟩
  obtain ⟨c0, c1, c2, c3, -, -, -, -, -⟩ := lab_below (l := ⟨n, la, lh, ln⟩) K.out.2 hb4 (rowV_lt K.out.2)
  have L4 := Lib.hid (K.out.1.trans (hb4.mono K.out.1.size))
  clear hb4
  go_wp2_with fail
  refine (HC.out.1 _).mono ?_
  rintro e w5 ⟨rfl, hb5⟩
  have L5 := Lib.hid (L4.out.trans (hb5.mono L4.out.size))
  clear hb5
  go_wp2_with fail
  refine (HC.out.2.1 _).mono ?_
  rintro e w6 ⟨rfl, hb6⟩
  have L6 := Lib.hid (L5.out.trans (hb6.mono L5.out.size))
  clear hb6
  go_wp2_with fail
  refine (HC.out.2.2 _ L6.out).mono ?_
  rintro e w7 ⟨rfl, h7, ho7⟩
  have L7 := Lib.hid (And.intro h7 ((Only.of_none (F := S) L6.out).more ho7))
  clear h7 ho7
  go_wp2_with fail
  go_ret
  exact ⟨rfl, L7.out.1, L7.out.2⟩
set_option maxRecDepth 100000 in
set_option maxHeartbeats 1600000 in
theorem rlwrite_d (h : RefAt w S q d) (hS : ∀ k, w.heap.size ≤ k → S k) (l : Lb.Label) (hW : d.W.length ≤ 1000000) (hF : (Lb.next d).2.2 = 0) (hr : Lb.right (Lb.at_ l (Lb.next d).2.1)) (hw : Lb.wroteE d l = 0) :
    Calls Try.prog 16 #[.pointer (some ⟨q, 0, none⟩), labV l] w fun e w' => e = .returned (.int .i64 (Dk.flushE (Lb.wrote d l))) ∧ RefAt w' S q (Dk.flush (Lb.wrote d l)) ∧ Only S w w' := by
  have cN : ∀ w', Below w.heap.size w w' → Calls Try.prog 38 #[.pointer (some ⟨q, 0, none⟩)] w' fun e w'' => e = .returned (.tuple #[.int .i64 (Lb.next d).1, .int .i64 (Lb.next d).2.1, .int .i64 (Lb.next d).2.2]) ∧ Below w'.heap.size w' w'' := fun w' hb => rlnext_up (refAt_below h hb)
  obtain ⟨hb, hlt, hrow⟩ := lab_box l w
  have cR := fun w => rright6_any (Lb.at_ l (Lb.next d).2.1) w
  have cT := fun w => rtext6_any (Lb.at_ l (Lb.next d).2.1) hr w
  have et : Lb.text (Lb.at_ l (Lb.next d).2.1) = Lb.text l := rfl
  have cP := fun w => rput5_any (Lb.next d).2.1 (Lb.text l) (by have := Lb.text_size hr; show (Lb.text (Lb.at_ l (Lb.next d).2.1)).size ≤ maxLen; unfold maxLen; omega) w
  have ep : Sl.putE (Lb.next d).2.1 (Lb.text l) = 0 := Lb.put_ok hr
  rw [ep] at cP
  rw [et] at cT
  have ew : Lb.wroteE d l = Dk.writeE d (Lb.next d).1 (Sl.putB (Lb.next d).2.1 (Lb.text l)) := rfl
  have ed : Lb.wrote d l = Dk.write d (Lb.next d).1 (Sl.putB (Lb.next d).2.1 (Lb.text l)) := rfl
  rw [decide_eq_true hr] at cR
  rw [hF] at cN
  have cW : ∀ w', Below w.heap.size w w' → Calls Try.prog 18 #[.pointer (some ⟨q, 0, none⟩), .int .i64 (Lb.next d).1, .string (Sl.putB (Lb.next d).2.1 (Lb.text l))] w' fun e w'' => e = .returned (.int .i64 (Lb.wroteE d l)) ∧ RefAt w'' S q (Lb.wrote d l) ∧ Only S w' w'' := fun w' hb' => by
    rw [ew, ed]; exact rwrite_upR (refAt_below h hb') (fun k hk => hS k (Nat.le_trans hb'.size hk)) _ _ hW
  obtain ⟨lt, la, lh, ln⟩ := l
  clear ew ed et
  generalize Lb.wroteE d (Lb.Label.mk lt la lh ln) = WE at *
  generalize Lb.wrote d (Lb.Label.mk lt la lh ln) = WD at *
  generalize Sl.putB (Lb.next d).2.1 (Lb.text (Lb.Label.mk lt la lh ln)) = Q at *
  generalize Lb.text (Lb.Label.mk lt la lh ln) = T at *
  generalize (Lb.next d).1 = at_ at *
  generalize (Lb.next d).2.1 = n at *
  have H := Lib.hid (And.intro cN (And.intro hb (And.intro hlt hrow)))
  have HD := Lib.hid (And.intro h (And.intro hS hW))
  have HR := Lib.hid cR
  have HC := Lib.hid (And.intro cT (And.intro cP cW))
  subst hw
  clear cN cR cT cP cW hb hlt hrow h hS hW hr hF ep
  go_enter Try.func16, Try.ntmps16
  go_wp2_with fail
  refine (H.out.1 _ H.out.2.1).mono ?_
  rintro e w2 ⟨rfl, hb2⟩
  obtain ⟨c0, c1, c2, c3, f0, f1, f2, f3, hr⟩ := lab_below (l := ⟨lt, la, lh, ln⟩) H.out.2.2.2 hb2 H.out.2.2.1
  have hB2 : Below w.heap.size w w2 := H.out.2.1.trans (hb2.mono H.out.2.1.size)
  have hr3 := rowV_stored hr 0 (.int .i64 n)
  have K := Lib.hid (And.intro (hB2.setCell (p := ⟨w.heap.size, 0, none⟩) (Nat.le_refl _) (.int .i64 n)) hr3)
  clear hb2 hB2 hr hr3
  go_wp2_with fail
  generalize hw3 : World.setCell _ _ _ = w3 at *
  refine (HR.out _).mono ?_
  rintro e w4 ⟨rfl, hb4⟩
  obtain ⟨c0, c1, c2, c3, -, -, -, -, -⟩ := lab_below (l := ⟨n, la, lh, ln⟩) K.out.2 hb4 (rowV_lt K.out.2)
  have L4 := Lib.hid (K.out.1.trans (hb4.mono K.out.1.size))
  clear hb4
  go_wp2_with fail
  refine (HC.out.1 _).mono ?_
  rintro e w5 ⟨rfl, hb5⟩
  have L5 := Lib.hid (L4.out.trans (hb5.mono L4.out.size))
  clear hb5
  go_wp2_with fail
  refine (HC.out.2.1 _).mono ?_
  rintro e w6 ⟨rfl, hb6⟩
  have L6 := Lib.hid (L5.out.trans (hb6.mono L5.out.size))
  clear hb6
  go_wp2_with fail
  refine (HC.out.2.2 _ L6.out).mono ?_
  rintro e w7 ⟨rfl, h7, ho7⟩
  have L7 := Lib.hid (And.intro h7 ((Only.of_none (F := S) L6.out).more ho7))
  clear h7 ho7
  go_wp2_with fail
  refine (rflush_upR L7.out.1).mono ?_
  rintro e w8 ⟨rfl, h8, ho8⟩
  have L8 := Lib.hid (And.intro h8 (L7.out.2.more ho8))
  clear h8 ho8
  go_wp2_with fail
  go_ret
  exact ⟨rfl, L8.out.1, L8.out.2⟩
theorem rlwrite_up (h : RefAt w S q d) (hS : ∀ k, w.heap.size ≤ k → S k) (l : Lb.Label) (hW : d.W.length ≤ 1000000) :
    Calls Try.prog 16 #[.pointer (some ⟨q, 0, none⟩), labV l] w fun e w' => e = .returned (.int .i64 (Lb.writeE d l)) ∧ RefAt w' S q (Lb.write d l) ∧ Only S w w' := by
  by_cases hF : (Lb.next d).2.2 = 0
  · by_cases hr : Lb.right (Lb.at_ l (Lb.next d).2.1)
    · by_cases hw : Lb.wroteE d l = 0
      · have e1 : Lb.writeE d l = Dk.flushE (Lb.wrote d l) := by unfold Lb.writeE; rw [if_neg (fun h => h hF), if_neg (fun h => h hr), if_neg (fun h => h hw)]
        have e2 : Lb.write d l = Dk.flush (Lb.wrote d l) := by unfold Lb.write; rw [if_neg (fun h => h hF), if_neg (fun h => h hr), if_neg (fun h => h hw)]
        rw [e1, e2]; exact rlwrite_d h hS l hW hF hr hw
      · have e1 : Lb.writeE d l = Lb.wroteE d l := by unfold Lb.writeE; rw [if_neg (fun h => h hF), if_neg (fun h => h hr), if_pos hw]
        have e2 : Lb.write d l = Lb.wrote d l := by unfold Lb.write; rw [if_neg (fun h => h hF), if_neg (fun h => h hr), if_pos hw]
        rw [e1, e2]; exact rlwrite_c h hS l hW hF hr hw
    · have e1 : Lb.writeE d l = 2 := by unfold Lb.writeE; rw [if_neg (fun h => h hF), if_pos hr]
      have e2 : Lb.write d l = d := by unfold Lb.write; rw [if_neg (fun h => h hF), if_pos hr]
      rw [e1, e2]; exact rlwrite_b h hS l hW hF hr
  · have e1 : Lb.writeE d l = (Lb.next d).2.2 := by unfold Lb.writeE; rw [if_pos hF]
    have e2 : Lb.write d l = d := by unfold Lb.write; rw [if_pos hF]
    rw [e1, e2]; exact rlwrite_a h hS l hW hF
end
end Go.Proofs.Ytedemehlccmkpaa

/-
  Layer 6: the document's example.
-/
namespace Go.Proofs.Ytedemehlccmkpaa
open Go.RowKit
theorem Lb.pick_zz : Lb.pick Sl.zeros Sl.zeros = (Lb.no, -1) := by unfold Lb.pick; rw [Lb.ofB_zeros]; rfl
theorem Sl.halves_zz : Sl.halves Sl.zeros = (0, 0) := by
  have := Sl.one_zeros (b := Sl.zeros) rfl
  unfold Sl.halves
  rw [if_pos Sl.zeros_size, this.1, this.2]
/-- a first label on a new disk -/
theorem first_label {l : Lb.Label} (hr : Lb.right (Lb.at_ l 1)) : Lb.next (Dk.new 2) = (0, 1, 0) ∧ Lb.writeE (Dk.new 2) l = 0 ∧ ∃ b, Lb.write (Dk.new 2) l = Lb.two b Sl.zeros (-1) ∧ Lb.pick b Sl.zeros = (Lb.at_ l 1, 0) ∧ Sl.halves b = (1, 1) := by
  have hm : Lb.most Sl.zeros Sl.zeros = 0 := by unfold Lb.most; rw [Sl.halves_zz]; rfl
  have hn : Lb.next (Dk.new 2) = (0, 1, 0) := by
    show Lb.next (Lb.two Sl.zeros Sl.zeros (-1)) = _
    rw [Lb.next_two (fun _ => rfl), Lb.pick_zz, hm]; rfl
  have ht : Lb.text (Lb.at_ l 1) = Lb.text l := rfl
  have hp : Sl.putE 1 (Lb.text l) = 0 := Lb.put_ok hr
  have hq : (Sl.putB 1 (Lb.text l)).size = 512 := Sl.put_size hp
  have ho : Lb.ofB (Sl.putB 1 (Lb.text l)) = some (Lb.at_ l 1) := Lb.ofB_put hr
  have h1 := Sl.put_one hp
  have h2 := Sl.put_two hp
  have hE : Lb.writeE (Dk.new 2) l = if Lb.wroteE (Dk.new 2) l ≠ 0 then Lb.wroteE (Dk.new 2) l else Dk.flushE (Lb.wrote (Dk.new 2) l) := by unfold Lb.writeE; rw [hn, if_neg (by simp), if_neg (fun h => h hr)]
  have hW : Lb.write (Dk.new 2) l = if Lb.wroteE (Dk.new 2) l ≠ 0 then Lb.wrote (Dk.new 2) l else Dk.flush (Lb.wrote (Dk.new 2) l) := by unfold Lb.write; rw [hn, if_neg (by simp), if_neg (fun h => h hr)]
  have wE : Lb.wroteE (Dk.new 2) l = Dk.writeE (Lb.two Sl.zeros Sl.zeros (-1)) 0 (Sl.putB 1 (Lb.text l)) := by unfold Lb.wroteE; rw [hn]; rfl
  have wW : Lb.wrote (Dk.new 2) l = Dk.write (Lb.two Sl.zeros Sl.zeros (-1)) 0 (Sl.putB 1 (Lb.text l)) := by unfold Lb.wrote; rw [hn]; rfl
  generalize Sl.putB 1 (Lb.text l) = b at *
  have hin : ¬ (¬ (0 ≤ (0 : Int) ∧ (0 : Int) < (Lb.two Sl.zeros Sl.zeros (-1)).B.length) ∨ b.size ≠ 512) := by
    show ¬ (¬ (0 ≤ (0 : Int) ∧ (0 : Int) < (2 : Nat)) ∨ b.size ≠ 512)
    omega
  have kE : Dk.writeE (Lb.two Sl.zeros Sl.zeros (-1)) 0 b = 0 := by unfold Dk.writeE; rw [if_neg (by exact Bool.false_ne_true), if_neg hin]; rfl
  have kW : Dk.write (Lb.two Sl.zeros Sl.zeros (-1)) 0 b = ⟨[Sl.zeros, Sl.zeros], [(0, b)], -1, false⟩ := by unfold Dk.write; rw [if_neg (by exact Bool.false_ne_true), if_neg hin]; rfl
  rw [wE, kE, wW, kW, if_neg (by simp)] at hE hW
  refine ⟨hn, by rw [hE]; rfl, b, by rw [hW]; rfl, ?_, ?_⟩
  · unfold Lb.pick; rw [ho, Lb.ofB_zeros]; rfl
  · unfold Sl.halves; rw [if_pos hq, h1, h2]
theorem lives6_math : Lb.next (Dk.new 2) = (0, 1, 0) ∧ Lb.writeE (Dk.new 2) ⟨0, 0, 5, ⟨#[120]⟩⟩ = 0 ∧ Lb.next (Lb.write (Dk.new 2) ⟨0, 0, 5, ⟨#[120]⟩⟩) = (1, 2, 0) ∧ Lb.read (Lb.write (Dk.new 2) ⟨0, 0, 5, ⟨#[120]⟩⟩) = (⟨1, 0, 5, ⟨#[120]⟩⟩, 0) := by
  have hr : Lb.right (Lb.at_ ⟨0, 0, 5, ⟨#[120]⟩⟩ 1) := by unfold Lb.right Lb.at_; refine ⟨?_, ?_, ?_, ?_, ?_, ?_⟩ <;> first | omega | decide
  obtain ⟨h1, h2, b, h3, h4, h5⟩ := first_label hr
  have hm : Lb.most b Sl.zeros = 1 := by unfold Lb.most; rw [h5, Sl.halves_zz]; rfl
  refine ⟨h1, h2, ?_, ?_⟩
  · rw [h3, Lb.next_two (fun h => absurd h (by rw [h4]; decide)), h4, hm]; rfl
  · rw [h3, Lb.read_two]; unfold Lb.readAB; rw [h4, if_pos (by decide)]; rfl
end Go.Proofs.Ytedemehlccmkpaa

/-
  Layer 4's laws: no disk, and one that nothing made: DiskNil, walked.
-/
namespace Go.Proofs.Ytedemehlccmkpaa
open Go.RowKit

/-- no disk, or one that nothing made -/
def NoDisk (w : World) (v : Value) : Prop := v = .pointer none ∨ ∃ p, v = .pointer (some ⟨p, 0, none⟩) ∧ RowV w p 79 [.slice none 0 0, .slice none 0 0, .slice none 0 0, .int .i64 0, .bool false]
theorem noDisk_below {w w' : World} {v : Value} (h : NoDisk w v) (hb : Below w.heap.size w w') : NoDisk w' v := by
  rcases h with h | ⟨p, h1, h2⟩
  · exact .inl h
  · exact .inr ⟨p, h1, rowV_below h2 hb (rowV_lt h2)⟩
section
variable {w : World} {v : Value}
set_option maxRecDepth 100000 in
theorem none_nil (h : NoDisk w v) : Calls Try.prog 45 #[v] w fun e w' => e = .returned (.bool true) ∧ w' = w := by
  rcases h with rfl | ⟨p, rfl, h⟩
  · go_enter Try.func45, Try.ntmps45
    go_wp2_with fail
    go_ret
    exact ⟨rfl, rfl⟩
  · have c0 := rowV_cell h 0
    replace c0 : w.cell? ⟨p, 0, none⟩ = some (.slice none 0 0) := c0
    clear h
    go_enter Try.func45, Try.ntmps45
    go_wp2_with fail
    go_ret
    exact ⟨rfl, rfl⟩
set_option maxRecDepth 100000 in
theorem asked_nil (h : NoDisk w v) : Calls Try.prog 40 #[v] w fun e w' => e = .returned (.int .i64 1) ∧ w' = w := by
  have HC := Lib.hid (none_nil h); clear h
  go_enter Try.func40, Try.ntmps40
  go_wp2_with fail
  refine HC.out.mono ?_
  rintro e _ ⟨rfl, rfl⟩
  go_wp2_with fail
  go_ret
  exact ⟨rfl, rfl⟩
set_option maxRecDepth 100000 in
theorem read_nil (h : NoDisk w v) (i : Int) : Calls Try.prog 49 #[v, .int .i64 i] w fun e w' => e = .returned (.tuple #[.string ByteArray.empty, .int .i64 1]) ∧ w' = w := by
  have HC := Lib.hid (asked_nil h); clear h
  go_enter Try.func49, Try.ntmps49
  go_wp2_with fail
  refine HC.out.mono ?_
  rintro e _ ⟨rfl, rfl⟩
  go_wp2_with fail
  go_ret2
  exact ⟨rfl, rfl⟩
set_option maxRecDepth 100000 in
theorem write_nil (h : NoDisk w v) (i : Int) (s : ByteArray) : Calls Try.prog 17 #[v, .int .i64 i, .string s] w fun e w' => e = .returned (.int .i64 1) ∧ w' = w := by
  have HC := Lib.hid (asked_nil h); clear h
  go_enter Try.func17, Try.ntmps17
  go_wp2_with fail
  refine HC.out.mono ?_
  rintro e _ ⟨rfl, rfl⟩
  go_wp2_with fail
  go_ret
  exact ⟨rfl, rfl⟩
set_option maxRecDepth 100000 in
theorem flush_nil (h : NoDisk w v) : Calls Try.prog 23 #[v] w fun e w' => e = .returned (.int .i64 1) ∧ w' = w := by
  have HC := Lib.hid (asked_nil h); clear h
  go_enter Try.func23, Try.ntmps23
  go_wp2_with fail
  refine HC.out.mono ?_
  rintro e _ ⟨rfl, rfl⟩
  go_wp2_with fail
  go_ret
  exact ⟨rfl, rfl⟩
set_option maxRecDepth 100000 in
theorem arm_nil (h : NoDisk w v) (i : Int) : Calls Try.prog 19 #[v, .int .i64 i] w fun e w' => e = .returned (.int .i64 1) ∧ w' = w := by
  have HC := Lib.hid (asked_nil h); clear h
  go_enter Try.func19, Try.ntmps19
  go_wp2_with fail
  refine HC.out.mono ?_
  rintro e _ ⟨rfl, rfl⟩
  go_wp2_with fail
  go_ret
  exact ⟨rfl, rfl⟩
set_option maxRecDepth 100000 in
theorem crash_nil (h : NoDisk w v) : Calls Try.prog 22 #[v, .slice none 0 0] w fun e w' => e = .returned (.int .i64 1) ∧ w' = w := by
  have HC := Lib.hid (none_nil h); clear h
  go_enter Try.func22, Try.ntmps22
  go_wp2_with fail
  refine HC.out.mono ?_
  rintro e _ ⟨rfl, rfl⟩
  go_wp2_with fail
  go_ret
  exact ⟨rfl, rfl⟩
end

end Go.Proofs.Ytedemehlccmkpaa

/-
  Layer 6's laws: the document's example; LabelBytes, LabelBack, LabelNil, walked.
-/
namespace Go.Proofs.Ytedemehlccmkpaa
open Go.RowKit
set_option maxRecDepth 100000 in
set_option maxHeartbeats 1600000 in
theorem lives6_any (w : World) : Calls Try.prog 8 #[] w fun e w' => e = .returned (.bool true) ∧ Below w.heap.size w w' := by
  have HM := Lib.hid lives6_math
  go_enter Try.func8, Try.ntmps8
  go_wp2_with fail
  refine (newL_any 2 w).mono ?_
  rintro e w1 (⟨h, _⟩ | ⟨_, _, p, rfl, hd, hb⟩)
  · exact absurd ⟨by omega, by omega⟩ h
  have H1 := Lib.hid (And.intro hd hb); clear hd hb
  go_wp2_with fail
  refine (lnext_up H1.out.1).mono ?_
  rintro e w2 ⟨rfl, hb⟩
  have H2 := Lib.hid (And.intro (diskAtL_below H1.out.1 hb) (H1.out.2.trans (hb.mono H1.out.2.size))); clear hb
  rw [show Lb.next (Dk.new (2 : Int).toNat) = (0, 1, 0) from HM.out.1]
  go_wp2_with fail
  refine (lwrite_upL H2.out.1 (fun k hk => Nat.le_trans H2.out.2.size hk) (fun _ h => h) ⟨0, 0, 5, ⟨#[120]⟩⟩ (by show 0 ≤ 1000000; omega)).mono ?_
  rintro e w3 ⟨rfl, hd, ho⟩
  have H3 := Lib.hid (And.intro hd (H2.out.2.trans (up_below ho H2.out.2.size))); clear hd ho
  rw [show Lb.writeE (Dk.new (2 : Int).toNat) ⟨0, 0, 5, ⟨#[120]⟩⟩ = 0 from HM.out.2.1]
  go_wp2_with fail
  refine (lnext_up H3.out.1).mono ?_
  rintro e w4 ⟨rfl, hb⟩
  have H4 := Lib.hid (And.intro (diskAtL_below H3.out.1 hb) (H3.out.2.trans (hb.mono H3.out.2.size))); clear hb
  rw [show Lb.next (Lb.write (Dk.new (2 : Int).toNat) ⟨0, 0, 5, ⟨#[120]⟩⟩) = (1, 2, 0) from HM.out.2.2.1]
  go_wp2_with fail
  refine (lread_up H4.out.1).mono ?_
  rintro e w5 ⟨rfl, hb⟩
  have H5 := Lib.hid (H4.out.2.trans (hb.mono H4.out.2.size)); clear hb
  rw [show Lb.read (Lb.write (Dk.new (2 : Int).toNat) ⟨0, 0, 5, ⟨#[120]⟩⟩) = (⟨1, 0, 5, ⟨#[120]⟩⟩, 0) from HM.out.2.2.2]
  go_wp2_with fail
  go_ret
  exact ⟨rfl, H5.out.alloc H5.out.size _⟩
/-! ### LabelNil -/
theorem reads_nil6 (w : World) : ReadsD w (.pointer none) (fun _ => ByteArray.empty) (fun _ => 1) := fun _ _ i => read_nil (.inl rfl) i
theorem readG_nil : readG (fun _ => ByteArray.empty) (fun _ => 1) = (Lb.no, 1) := if_pos (by decide)
theorem nextG_nil : nextG (fun _ => ByteArray.empty) (fun _ => 1) = (0, 0, 1) := by unfold nextG; rw [readG_nil]; exact if_pos ⟨by decide, by decide⟩
theorem lread_nil (w : World) : Calls Try.prog 27 #[.pointer none] w fun e w' => e = .returned (.tuple #[labV ⟨0, 0, 0, ⟨#[]⟩⟩, .int .i64 1]) ∧ Below w.heap.size w w' := by
  have h := read6_any (reads_nil6 w) (by show 0 ≤ maxLen; omega) (by show 0 ≤ maxLen; omega)
  rw [readG_nil] at h; exact h
theorem lnext_nil (w : World) : Calls Try.prog 26 #[.pointer none] w fun e w' => e = .returned (.tuple #[.int .i64 0, .int .i64 0, .int .i64 1]) ∧ Below w.heap.size w w' := by
  have h := next6_any (reads_nil6 w) (by show 0 ≤ maxLen; omega) (by show 0 ≤ maxLen; omega) (by decide) (by decide)
  rw [nextG_nil] at h; exact h
set_option maxRecDepth 100000 in
set_option maxHeartbeats 1600000 in
theorem lwrite_nil (l : Lb.Label) (w : World) : Calls Try.prog 15 #[.pointer none, labV l] w fun e w' => e = .returned (.int .i64 1) ∧ Below w.heap.size w w' := by
  obtain ⟨hb, hlt, hrow⟩ := lab_box l w
  obtain ⟨lt, la, lh, ln⟩ := l
  have H := Lib.hid hb
  clear hb hlt hrow
  go_enter Try.func15, Try.ntmps15
  go_wp2_with fail
  refine (lnext_nil _).mono ?_
  rintro e w2 ⟨rfl, hb2⟩
  have K := Lib.hid (H.out.trans (hb2.mono H.out.size))
  clear hb2
  go_wp2_with fail
  go_ret
  exact ⟨rfl, K.out⟩
set_option maxRecDepth 100000 in
set_option maxHeartbeats 1600000 in
theorem LabelNil_walk (l : Lb.Label) (w : World) : Calls Try.prog 7 #[labV l] w fun e w' => e = .returned (.bool true) ∧ Below w.heap.size w w' := by
  obtain ⟨hb, hlt, hrow⟩ := lab_box l w
  have cl := fun w => lives6_any w
  have cw := fun w => lwrite_nil l w
  obtain ⟨lt, la, lh, ln⟩ := l
  have H := Lib.hid (And.intro cl (And.intro cw (And.intro hb (And.intro hlt hrow))))
  clear hb hlt hrow cl cw
  go_enter Try.func7, Try.ntmps7
  go_wp2_with fail
  refine (lread_nil _).mono ?_
  rintro e w2 ⟨rfl, hb2⟩
  have hr2 := rowV_below H.out.2.2.2.2 hb2 H.out.2.2.2.1
  have hB2 : Below w.heap.size w w2 := H.out.2.2.1.trans (hb2.mono H.out.2.2.1.size)
  have hb3 : Below w2.heap.size w2 (w2.alloc (.cells #[.int .i64 0, .int .i64 0, .int .i64 0, .string ⟨#[]⟩] 23)) := (Below.refl _ w2).alloc (Nat.le_refl _) _
  have hrn := rowV_new w2 23 (labC ⟨0, 0, 0, ⟨#[]⟩⟩).toList
  have K := Lib.hid (And.intro (rowV_below hr2 hb3 (rowV_lt hr2)) (And.intro (hB2.trans (hb3.mono hB2.size)) hrn))
  clear hb2 hr2 hB2 hb3 hrn
  go_wp2_with fail
  generalize hw3 : World.alloc w2 _ = w3 at *
  have K2 : Hid (RowV w3 w.heap.size 23 [.int .i64 lt, .int .i64 la, .int .i64 lh, .string ln] ∧ Below w.heap.size w w3 ∧ RowV w3 w2.heap.size 23 (labC ⟨0, 0, 0, ⟨#[]⟩⟩).toList) := Lib.hid K.out
  clear K hw3
  refine (lnext_nil _).mono ?_
  rintro e w4 ⟨rfl, hb4⟩
  obtain ⟨c0, c1, c2, c3, -, -, -, -, hr4⟩ := lab_below (l := ⟨lt, la, lh, ln⟩) K2.out.1 hb4 (rowV_lt K2.out.1)
  obtain ⟨a0, a1, a2, a3, -, -, -, -, -⟩ := lab_below (l := ⟨0, 0, 0, ⟨#[]⟩⟩) K2.out.2.2 hb4 (rowV_lt K2.out.2.2)
  have L := Lib.hid (K2.out.2.1.trans (hb4.mono K2.out.2.1.size))
  clear hb4 hr4
  go_wp2_with fail
  refine (H.out.2.1 _).mono ?_
  rintro e w5 ⟨rfl, hb5⟩
  have M := Lib.hid (L.out.trans (hb5.mono L.out.size))
  clear hb5
  go_wp2_with fail
  refine (H.out.1 _).mono ?_
  rintro e w6 ⟨rfl, hb6⟩
  have N := Lib.hid (M.out.trans (hb6.mono M.out.size))
  clear hb6
  go_wp2_with fail
  go_ret
  exact ⟨rfl, N.out⟩
/-! ### LabelBytes -/
set_option maxRecDepth 100000 in
set_option maxHeartbeats 1600000 in
theorem LabelBytes_walk (l : Lb.Label) (turn : Int) (s : ByteArray) (_w1 : (Lit.int .i64 turn).wf = true) (hs : s.size ≤ maxLen) (w : World) : Calls Try.prog 3 #[labV l, .int .i64 turn, .string s] w fun e w' => e = .returned (.bool true) ∧ Below w.heap.size w w' := by
  obtain ⟨hb, hlt, hrow⟩ := lab_box l w
  have cl := fun w => lives6_any w
  have c1 := fun w => bytes6_any l w
  have c2 := fun w => rbytes6_any l w
  have c3 := fun w => parse6_any turn s hs w
  have c4 := fun w => rparse6_any turn s hs w
  generalize Lb.bytes l = P at *
  generalize Lb.bytesE l = E at *
  generalize Lb.parse turn s = R at *
  obtain ⟨⟨rt, ra, rh, rn⟩, F⟩ := R
  obtain ⟨lt, la, lh, ln⟩ := l
  have H := Lib.hid (And.intro cl (And.intro c1 (And.intro c2 (And.intro c3 (And.intro c4 (And.intro hb (And.intro hlt hrow)))))))
  clear cl c1 c2 c3 c4 hb hlt hrow
  by_cases h1 : 1000 < ln.size
  · have t1 : (1000 : Int) < (ln.size : Int) := by omega
    go_enter Try.func3, Try.ntmps3
    go_wp2_with fail
    refine (H.out.1 _).mono ?_
    rintro e w1 ⟨rfl, hb⟩
    have B1 := Lib.hid (H.out.2.2.2.2.2.1.trans (hb.mono H.out.2.2.2.2.2.1.size)); clear hb
    go_wp2_with fail
    go_ret
    exact ⟨rfl, B1.out⟩
  · have t1 : ¬ (1000 : Int) < (ln.size : Int) := by omega
    by_cases h2 : 1000 < s.size
    · have t2 : (1000 : Int) < (s.size : Int) := by omega
      go_enter Try.func3, Try.ntmps3
      go_wp2_with fail
      refine (H.out.1 _).mono ?_
      rintro e w1 ⟨rfl, hb⟩
      have B1 := Lib.hid (H.out.2.2.2.2.2.1.trans (hb.mono H.out.2.2.2.2.2.1.size)); clear hb
      go_wp2_with fail
      go_ret
      exact ⟨rfl, B1.out⟩
    · have t2 : ¬ (1000 : Int) < (s.size : Int) := by omega
      go_enter Try.func3, Try.ntmps3
      go_wp2_with fail
      refine (H.out.2.1 _).mono ?_
      rintro e w1 ⟨rfl, hb⟩
      obtain ⟨c0, c1, c2, c3, -, -, -, -, hr1⟩ := lab_below (l := ⟨lt, la, lh, ln⟩) H.out.2.2.2.2.2.2.2 hb H.out.2.2.2.2.2.2.1
      have B1 := Lib.hid (H.out.2.2.2.2.2.1.trans (hb.mono H.out.2.2.2.2.2.1.size)); clear hb hr1
      go_wp2_with fail
      refine (H.out.2.2.1 _).mono ?_
      rintro e w2 ⟨rfl, hb⟩
      have B2 := Lib.hid (B1.out.trans (hb.mono B1.out.size)); clear hb
      go_wp2_with fail
      refine (H.out.2.2.2.1 _).mono ?_
      rintro e w3 ⟨rfl, hb⟩
      have hB3 := B2.out.trans (hb.mono B2.out.size)
      obtain ⟨hbx, hlx, hrx⟩ := lab_box ⟨rt, ra, rh, rn⟩ w3
      have B3 := Lib.hid (And.intro (hB3.trans (hbx.mono hB3.size)) hrx); clear hb hB3 hbx hlx hrx
      go_wp2_with fail
      generalize hw4 : World.alloc w3 _ = w4 at *
      have B4 : Hid (Below w.heap.size w w4 ∧ RowV w4 w3.heap.size 23 [.int .i64 rt, .int .i64 ra, .int .i64 rh, .string rn]) := Lib.hid B3.out
      clear B3 hw4
      refine (H.out.2.2.2.2.1 _).mono ?_
      rintro e w5 ⟨rfl, hb⟩
      have hB5 := B4.out.1.trans (hb.mono B4.out.1.size)
      have hr5 := rowV_below B4.out.2 hb (rowV_lt B4.out.2)
      obtain ⟨hbx, hlx, hrx⟩ := lab_box ⟨rt, ra, rh, rn⟩ w5
      obtain ⟨a0, a1, a2, a3, -, -, -, -, -⟩ := lab_below (l := ⟨rt, ra, rh, rn⟩) hr5 hbx (rowV_lt hr5)
      have B5 := Lib.hid (hB5.trans (hbx.mono hB5.size)); clear hb hB5 hbx hlx hrx hr5
      go_wp2_with fail
      refine (H.out.1 _).mono ?_
      rintro e w6 ⟨rfl, hb⟩
      have B6 := Lib.hid (B5.out.trans (hb.mono B5.out.size)); clear hb
      go_wp2_with fail
      go_ret
      exact ⟨rfl, B6.out⟩
end Go.Proofs.Ytedemehlccmkpaa

/-
  Layer 6's laws: LabelBack, walked.
-/
namespace Go.Proofs.Ytedemehlccmkpaa
open Go.RowKit
set_option maxRecDepth 100000 in
set_option maxHeartbeats 4000000 in
theorem LabelBack_walk (l : Lb.Label) (turn : Int) (s : ByteArray) (_w1 : (Lit.int .i64 turn).wf = true) (hs : s.size ≤ maxLen) (w : World) : Calls Try.prog 6 #[labV l, .int .i64 turn, .string s] w fun e w' => e = .returned (.bool true) ∧ Below w.heap.size w w' := by
  have HB := Lib.hid (lab_box l w)
  have cl := fun w => lives6_any w
  have c1 := fun w => bytes6_any l w
  have c3 := fun w => parse6_any turn s hs w
  have e0 : labV Lb.no = labV ⟨0, 0, 0, ⟨#[]⟩⟩ := rfl
  by_cases h1 : 1000 < l.note.size
  · obtain ⟨lt, la, lh, ln⟩ := l
    have t1 : (1000 : Int) < (ln.size : Int) := by have h1 : 1000 < ln.size := h1; omega
    have H := Lib.hid cl
    clear cl c1 c3 h1 e0
    go_enter Try.func6, Try.ntmps6
    go_wp2_with fail
    refine (H.out _).mono ?_
    rintro e w1 ⟨rfl, hb⟩
    have B1 := Lib.hid (HB.out.1.trans (hb.mono HB.out.1.size)); clear hb
    go_wp2_with fail
    go_ret
    exact ⟨rfl, B1.out⟩
  · by_cases h2 : 1000 < s.size
    · obtain ⟨lt, la, lh, ln⟩ := l
      have t1 : ¬ (1000 : Int) < (ln.size : Int) := by have h1 : ¬ 1000 < ln.size := h1; omega
      have t2 : (1000 : Int) < (s.size : Int) := by omega
      have H := Lib.hid cl
      clear cl c1 c3 h1 h2 e0
      go_enter Try.func6, Try.ntmps6
      go_wp2_with fail
      refine (H.out _).mono ?_
      rintro e w1 ⟨rfl, hb⟩
      have B1 := Lib.hid (HB.out.1.trans (hb.mono HB.out.1.size)); clear hb
      go_wp2_with fail
      go_ret
      exact ⟨rfl, B1.out⟩
    · have t2 : ¬ (1000 : Int) < (s.size : Int) := by omega
      by_cases hr : Lb.right l
      · have cf := fun w => parse6_any l.turn (Lb.text l) (by have := Lb.text_size hr; unfold maxLen; omega) w
        rw [Lb.parse_text hr] at cf
        rw [(bytes6_yes hr).1, (bytes6_yes hr).2] at c1
        generalize Lb.text l = T at *
        obtain ⟨lt, la, lh, ln⟩ := l
        have t1 : ¬ (1000 : Int) < (ln.size : Int) := by have h1 : ¬ 1000 < ln.size := h1; omega
        have HF := Lib.hid cf
        clear cf h1 h2
        by_cases h4 : (Lb.parse turn s).2 = 0
        · obtain ⟨p1, p2, p3⟩ := Lb.parse_ok h4
          have cs := fun w => bytes6_any (Lb.parse turn s).1 w
          rw [(bytes6_yes p1).1, (bytes6_yes p1).2, p3] at cs
          rw [h4] at c3
          obtain ⟨R, hR⟩ : ∃ R, (Lb.parse turn s).1 = R := ⟨_, rfl⟩
          rw [hR] at c3 cs p2
          clear hR p1 p3 h4
          obtain ⟨rt, ra, rh, rn⟩ := R
          obtain rfl : rt = turn := p2
          have H := Lib.hid (And.intro cl (And.intro c1 c3))
          have HS := Lib.hid cs
          clear cl c1 c3 cs hr
          go_enter Try.func6, Try.ntmps6
          go_wp2_with fail
          refine (H.out.2.1 _).mono ?_
          rintro e w1 ⟨rfl, hb⟩
          obtain ⟨c0, c1, c2, c3, -, -, -, -, hr1⟩ := lab_below (l := ⟨lt, la, lh, ln⟩) HB.out.2.2 hb HB.out.2.1
          have hB1 := HB.out.1.trans (hb.mono HB.out.1.size)
          have B1 := Lib.hid (And.intro hB1 hr1); clear hb hr1 hB1
          go_wp2_with fail
          refine (HF.out _).mono ?_
          rintro e w2 ⟨rfl, hb⟩
          have hr2 := rowV_below B1.out.2 hb (rowV_lt B1.out.2)
          have hB2 := B1.out.1.trans (hb.mono B1.out.1.size)
          obtain ⟨hbx, hlx, hrx⟩ := lab_box ⟨lt, la, lh, ln⟩ w2
          clear c0 c1 c2 c3
          obtain ⟨c0, c1, c2, c3, -, -, -, -, -⟩ := lab_below (l := ⟨lt, la, lh, ln⟩) hr2 hbx (rowV_lt hr2)
          have B2 := Lib.hid (hB2.trans (hbx.mono hB2.size)); clear hb hr2 hB2 hbx hlx hrx
          go_wp2_with fail
          generalize hw2 : World.alloc w2 _ = w2b at *
          clear hw2
          refine (H.out.2.2 _).mono ?_
          rintro e w3 ⟨rfl, hb⟩
          have hB3 := B2.out.trans (hb.mono B2.out.size)
          obtain ⟨hbx, hlx, hrx⟩ := lab_box ⟨rt, ra, rh, rn⟩ w3
          have B3 := Lib.hid (And.intro (hB3.trans (hbx.mono hB3.size)) hrx); clear hb hB3 hbx hlx hrx
          go_wp2_with fail
          generalize hw4 : World.alloc w3 _ = w4 at *
          have B4 : Hid (Below w.heap.size w w4 ∧ RowV w4 w3.heap.size 23 [.int .i64 rt, .int .i64 ra, .int .i64 rh, .string rn]) := Lib.hid B3.out
          clear B3 hw4
          refine (HS.out _).mono ?_
          rintro e w5 ⟨rfl, hb⟩
          have hB5 := B4.out.1.trans (hb.mono B4.out.1.size)
          obtain ⟨a0, a1, a2, a3, -, -, -, -, -⟩ := lab_below (l := ⟨rt, ra, rh, rn⟩) B4.out.2 hb (rowV_lt B4.out.2)
          have B5 := Lib.hid hB5; clear hb hB5
          go_wp2_with fail
          refine (H.out.1 _).mono ?_
          rintro e w6 ⟨rfl, hb⟩
          have B6 := Lib.hid (B5.out.trans (hb.mono B5.out.size)); clear hb
          go_wp2_with fail
          go_ret
          exact ⟨rfl, B6.out⟩
        · have p1 := Lb.parse_err h4
          rw [p1, e0] at c3
          generalize (Lb.parse turn s).2 = F at *
          have q : (F != 0) = true := by simpa using h4
          have H := Lib.hid (And.intro cl (And.intro c1 c3))
          clear cl c1 c3 h4 p1 hr
          go_enter Try.func6, Try.ntmps6
          go_wp2_with fail
          refine (H.out.2.1 _).mono ?_
          rintro e w1 ⟨rfl, hb⟩
          obtain ⟨c0, c1, c2, c3, -, -, -, -, hr1⟩ := lab_below (l := ⟨lt, la, lh, ln⟩) HB.out.2.2 hb HB.out.2.1
          have hB1 := HB.out.1.trans (hb.mono HB.out.1.size)
          have B1 := Lib.hid (And.intro hB1 hr1); clear hb hr1 hB1
          go_wp2_with fail
          refine (HF.out _).mono ?_
          rintro e w2 ⟨rfl, hb⟩
          have hr2 := rowV_below B1.out.2 hb (rowV_lt B1.out.2)
          have hB2 := B1.out.1.trans (hb.mono B1.out.1.size)
          obtain ⟨hbx, hlx, hrx⟩ := lab_box ⟨lt, la, lh, ln⟩ w2
          clear c0 c1 c2 c3
          obtain ⟨c0, c1, c2, c3, -, -, -, -, -⟩ := lab_below (l := ⟨lt, la, lh, ln⟩) hr2 hbx (rowV_lt hr2)
          have B2 := Lib.hid (hB2.trans (hbx.mono hB2.size)); clear hb hr2 hB2 hbx hlx hrx
          go_wp2_with fail
          generalize hw2 : World.alloc w2 _ = w2b at *
          clear hw2
          refine (H.out.2.2 _).mono ?_
          rintro e w3 ⟨rfl, hb⟩
          have hB3 := B2.out.trans (hb.mono B2.out.size)
          obtain ⟨hbx, hlx, hrx⟩ := lab_box ⟨0, 0, 0, ⟨#[]⟩⟩ w3
          have B3 := Lib.hid (And.intro (hB3.trans (hbx.mono hB3.size)) hrx); clear hb hB3 hbx hlx hrx
          go_wp2_with fail
          generalize hw4 : World.alloc w3 _ = w4 at *
          have B4 : Hid (Below w.heap.size w w4 ∧ RowV w4 w3.heap.size 23 [.int .i64 0, .int .i64 0, .int .i64 0, .string ⟨#[]⟩]) := Lib.hid B3.out
          clear B3 hw4
          refine (H.out.1 _).mono ?_
          rintro e w6 ⟨rfl, hb⟩
          have B6 := Lib.hid (B4.out.1.trans (hb.mono B4.out.1.size)); clear hb
          go_wp2_with fail
          go_ret
          exact ⟨rfl, B6.out⟩
      · rw [(bytes6_no hr).1, (bytes6_no hr).2] at c1
        obtain ⟨lt, la, lh, ln⟩ := l
        have t1 : ¬ (1000 : Int) < (ln.size : Int) := by have h1 : ¬ 1000 < ln.size := h1; omega
        clear h1 h2
        by_cases h4 : (Lb.parse turn s).2 = 0
        · obtain ⟨p1, p2, p3⟩ := Lb.parse_ok h4
          have cs := fun w => bytes6_any (Lb.parse turn s).1 w
          rw [(bytes6_yes p1).1, (bytes6_yes p1).2, p3] at cs
          rw [h4] at c3
          obtain ⟨R, hR⟩ : ∃ R, (Lb.parse turn s).1 = R := ⟨_, rfl⟩
          rw [hR] at c3 cs p2
          clear hR p1 p3 h4
          obtain ⟨rt, ra, rh, rn⟩ := R
          obtain rfl : rt = turn := p2
          have H := Lib.hid (And.intro cl (And.intro c1 c3))
          have HS := Lib.hid cs
          clear cl c1 c3 cs hr
          go_enter Try.func6, Try.ntmps6
          go_wp2_with fail
          refine (H.out.2.1 _).mono ?_
          rintro e w1 ⟨rfl, hb⟩
          obtain ⟨c0, c1, c2, c3, -, -, -, -, hr1⟩ := lab_below (l := ⟨lt, la, lh, ln⟩) HB.out.2.2 hb HB.out.2.1
          have hB1 := HB.out.1.trans (hb.mono HB.out.1.size)
          have B1 := Lib.hid (And.intro hB1 hr1); clear hb hr1 hB1
          go_wp2_with fail
          refine (H.out.2.2 _).mono ?_
          rintro e w3 ⟨rfl, hb⟩
          have hB3 := B1.out.1.trans (hb.mono B1.out.1.size)
          obtain ⟨hbx, hlx, hrx⟩ := lab_box ⟨rt, ra, rh, rn⟩ w3
          have B3 := Lib.hid (And.intro (hB3.trans (hbx.mono hB3.size)) hrx); clear hb hB3 hbx hlx hrx
          go_wp2_with fail
          generalize hw4 : World.alloc w3 _ = w4 at *
          have B4 : Hid (Below w.heap.size w w4 ∧ RowV w4 w3.heap.size 23 [.int .i64 rt, .int .i64 ra, .int .i64 rh, .string rn]) := Lib.hid B3.out
          clear B3 hw4
          refine (HS.out _).mono ?_
          rintro e w5 ⟨rfl, hb⟩
          have hB5 := B4.out.1.trans (hb.mono B4.out.1.size)
          obtain ⟨a0, a1, a2, a3, -, -, -, -, -⟩ := lab_below (l := ⟨rt, ra, rh, rn⟩) B4.out.2 hb (rowV_lt B4.out.2)
          have B5 := Lib.hid hB5; clear hb hB5
          go_wp2_with fail
          refine (H.out.1 _).mono ?_
          rintro e w6 ⟨rfl, hb⟩
          have B6 := Lib.hid (B5.out.trans (hb.mono B5.out.size)); clear hb
          go_wp2_with fail
          go_ret
          exact ⟨rfl, B6.out⟩
        · have p1 := Lb.parse_err h4
          rw [p1, e0] at c3
          generalize (Lb.parse turn s).2 = F at *
          have q : (F != 0) = true := by simpa using h4
          have H := Lib.hid (And.intro cl (And.intro c1 c3))
          clear cl c1 c3 h4 p1 hr
          go_enter Try.func6, Try.ntmps6
          go_wp2_with fail
          refine (H.out.2.1 _).mono ?_
          rintro e w1 ⟨rfl, hb⟩
          obtain ⟨c0, c1, c2, c3, -, -, -, -, hr1⟩ := lab_below (l := ⟨lt, la, lh, ln⟩) HB.out.2.2 hb HB.out.2.1
          have hB1 := HB.out.1.trans (hb.mono HB.out.1.size)
          have B1 := Lib.hid (And.intro hB1 hr1); clear hb hr1 hB1
          go_wp2_with fail
          refine (H.out.2.2 _).mono ?_
          rintro e w3 ⟨rfl, hb⟩
          have hB3 := B1.out.1.trans (hb.mono B1.out.1.size)
          obtain ⟨hbx, hlx, hrx⟩ := lab_box ⟨0, 0, 0, ⟨#[]⟩⟩ w3
          have B3 := Lib.hid (And.intro (hB3.trans (hbx.mono hB3.size)) hrx); clear hb hB3 hbx hlx hrx
          go_wp2_with fail
          generalize hw4 : World.alloc w3 _ = w4 at *
          have B4 : Hid (Below w.heap.size w w4 ∧ RowV w4 w3.heap.size 23 [.int .i64 0, .int .i64 0, .int .i64 0, .string ⟨#[]⟩]) := Lib.hid B3.out
          clear B3 hw4
          refine (H.out.1 _).mono ?_
          rintro e w6 ⟨rfl, hb⟩
          have B6 := Lib.hid (B4.out.1.trans (hb.mono B4.out.1.size)); clear hb
          go_wp2_with fail
          go_ret
          exact ⟨rfl, B6.out⟩
end Go.Proofs.Ytedemehlccmkpaa

/-
  Layer 6's laws: the program's disk alone, apart from the blocks that are named; the labels' calls of it.
-/
namespace Go.Proofs.Ytedemehlccmkpaa
open Go.RowKit
/-- the disk, apart from what X names -/
def One (w : World) (X : Nat → Prop) (p : Nat) (d : Dk.D) : Prop := ∃ Sd : Nat → Prop, DiskAtL w Sd Sd p d ∧ (∀ k, Sd k → ¬ X k ∧ k < w.heap.size) ∧ ∀ k, X k → k < w.heap.size
section
variable {w : World} {X : Nat → Prop} {p : Nat} {d : Dk.D}
theorem one_less {Y : Nat → Prop} (h : One w X p d) (hY : ∀ k, Y k → X k) : One w Y p d := by
  obtain ⟨Sd, h1, h2, h3⟩ := h
  exact ⟨Sd, h1, fun k hk => ⟨fun hy => (h2 k hk).1 (hY k hy), (h2 k hk).2⟩, fun k hk => h3 k (hY k hk)⟩
theorem one_below {w' : World} (h : One w X p d) (hb : Below w.heap.size w w') : One w' X p d := by
  obtain ⟨Sd, h1, h2, h3⟩ := h
  exact ⟨Sd, diskAtL_below h1 hb, fun k hk => ⟨(h2 k hk).1, Nat.lt_of_lt_of_le (h2 k hk).2 hb.size⟩, fun k hk => Nat.lt_of_lt_of_le (h3 k hk) hb.size⟩
/-- a block more that it leaves alone -/
theorem one_more {w' : World} (h : One w X p d) (hb : Below w.heap.size w w') (hw : w.heap.size < w'.heap.size) : One w' (fun k => X k ∨ k = w.heap.size) p d := by
  obtain ⟨Sd, h1, h2, h3⟩ := h
  refine ⟨Sd, diskAtL_below h1 hb, fun k hk => ⟨fun hx => hx.elim (h2 k hk).1 fun e => ?_, Nat.lt_of_lt_of_le (h2 k hk).2 hb.size⟩, fun k hk => hk.elim (fun hx => Nat.lt_of_lt_of_le (h3 k hx) hb.size) fun e => by omega⟩
  have := (h2 k hk).2; omega
/-- a step that turns blocks of X alone -/
theorem one_at {w' : World} {F : Nat → Prop} (h : One w X p d) (ho : Only F w w') (hF : ∀ k, F k → X k) : One w' X p d := by
  obtain ⟨Sd, h1, h2, h3⟩ := h
  exact ⟨Sd, diskAtL_only h1 ho (fun k hk hf => (h2 k hk).1 (hF k hf)) (fun k hk hf => (h2 k hk).1 (hF k hf)), fun k hk => ⟨(h2 k hk).1, Nat.lt_of_lt_of_le (h2 k hk).2 ho.size⟩, fun k hk => Nat.lt_of_lt_of_le (h3 k hk) ho.size⟩
theorem one_prog (h : One w X p d) {f : FuncId} {args : Array Value} {R : Ending} {d' : Dk.D}
    (hc : ∀ S : Nat → Prop, DiskAtL w S S p d → (∀ k, w.heap.size ≤ k → S k) → (∀ k, S k → ¬ X k) → Calls Try.prog f args w fun en w' => en = R ∧ DiskAtL w' S S p d' ∧ Only S w w') :
    Calls Try.prog f args w fun en w' => en = R ∧ One w' X p d' ∧ Only (fun k => ¬ X k) w w' := by
  obtain ⟨Sd, h1, h2, h3⟩ := h
  have hX : ∀ k, (Sd k ∨ w.heap.size ≤ k) → ¬ X k := fun k hk hx => hk.elim (fun hs => (h2 k hs).1 hx) fun hs => by have := h3 k hx; omega
  refine (hc (fun k => Sd k ∨ w.heap.size ≤ k) (diskAtL_mono h1 (fun _ _ h => .inl h) (fun _ _ h => .inl h)) (fun _ h => .inr h) hX).mono fun en w' ⟨e1, hd, ho⟩ => ⟨e1, ?_, ho.mono fun k _ hk => hX k hk⟩
  exact ⟨fun k => (Sd k ∨ w.heap.size ≤ k) ∧ k < w'.heap.size, diskAtL_mono hd (fun k hk hs => ⟨hs, hk⟩) (fun k hk hs => ⟨hs, hk⟩), fun k hk => ⟨hX k hk.1, hk.2⟩, fun k hk => Nat.lt_of_lt_of_le (h3 k hk) ho.size⟩
theorem one_arm (h : One w X p d) (n : Int) (h1 : -9223372036854775808 ≤ n) (h2 : n ≤ 9223372036854775807) :
    Calls Try.prog 19 #[.pointer (some ⟨p, 0, none⟩), .int .i64 n] w fun en w' => en = .returned (.int .i64 (Dk.armE d)) ∧ One w' X p (Dk.arm d n) ∧ Only (fun k => ¬ X k) w w' :=
  one_prog h fun _ hd _ _ => arm_upL hd n h1 h2
theorem one_crash (h : One w X p d) (fa : Option Addr) (F : List Int) (fc : Nat) (hF : ReadsI w fa F) (hfa : ∀ a, fa = some a → F ≠ [] → X a.block) :
    Calls Try.prog 22 #[.pointer (some ⟨p, 0, none⟩), .slice fa F.length fc] w fun en w' => en = .returned (.int .i64 0) ∧ One w' X p (Dk.crash d F) ∧ Only (fun k => ¬ X k) w w' :=
  one_prog h fun _ hd hS hX => crash_upL hd hS (fun _ h => h) fa F fc hF fun a ha hne hs => hX _ hs (hfa a ha hne)
theorem one_write (h : One w X p d) (l : Lb.Label) (hW : d.W.length ≤ 1000000) :
    Calls Try.prog 15 #[.pointer (some ⟨p, 0, none⟩), labV l] w fun en w' => en = .returned (.int .i64 (Lb.writeE d l)) ∧ One w' X p (Lb.write d l) ∧ Only (fun k => ¬ X k) w w' :=
  one_prog h fun _ hd hS _ => lwrite_upL hd hS (fun _ h => h) l hW
theorem one_next (h : One w X p d) : Calls Try.prog 26 #[.pointer (some ⟨p, 0, none⟩)] w fun e w' => e = .returned (.tuple #[.int .i64 (Lb.next d).1, .int .i64 (Lb.next d).2.1, .int .i64 (Lb.next d).2.2]) ∧ Below w.heap.size w w' := by
  obtain ⟨_, h1, _⟩ := h
  exact lnext_up h1
theorem one_read (h : One w X p d) : Calls Try.prog 27 #[.pointer (some ⟨p, 0, none⟩)] w fun e w' => e = .returned (.tuple #[labV (Lb.read d).1, .int .i64 (Lb.read d).2]) ∧ Below w.heap.size w w' := by
  obtain ⟨_, h1, _⟩ := h
  exact lread_up h1
theorem one_new {w0 : World} {n : Nat} (hd : DiskAtL w (fun k => w0.heap.size ≤ k) (fun k => w0.heap.size ≤ k) p (Dk.new n)) (hb : Below w0.heap.size w0 w) : One w (fun k => k < w0.heap.size) p (Dk.new n) :=
  ⟨fun k => w0.heap.size ≤ k ∧ k < w.heap.size, diskAtL_mono hd (fun k hk h => ⟨h, hk⟩) (fun k hk h => ⟨h, hk⟩), fun k h => ⟨by omega, h.2⟩, fun k h => by have := hb.size; omega⟩
end
/-- a label that is written next is newer than the one that is there -/
theorem Lb.turns_fresh {d : Dk.D} {l : Lb.Label} {N : Int} (h : Lb.Turns d l N) : l.turn < (Lb.next d).2.1 := by
  obtain ⟨a, b, rfl, ha, hb, h0, h1, rfl, hz⟩ := h
  obtain ⟨m0, m1, la, lb⟩ := Lb.most_low ha hb h0 h1
  have en := Lb.next_two hz (-1)
  show (Lb.pick a b).1.turn < (Lb.next (Lb.two a b (-1))).2.1
  rw [en]
  show (Lb.pick a b).1.turn < Lb.most a b + 1
  rcases Lb.pick_at a b with ⟨_, _, _, h⟩ | ⟨_, h⟩ | ⟨_, h⟩
  · rw [h]; show (0 : Int) < _; omega
  · have := (Lb.ofB_turn h).1; have := la.2.2.1; omega
  · have := (Lb.ofB_turn h).1; have := lb.2.2.1; omega
theorem Lb.turns_W {d : Dk.D} {l : Lb.Label} {N : Int} (h : Lb.Turns d l N) (f : Int) : (Dk.arm d f).W.length ≤ 1000000 := by
  obtain ⟨a, b, rfl, _⟩ := h
  show 0 ≤ 1000000
  omega
/-- a try -/
structure TTry where
  tail : Int
  head : Int
  fuse : Int
  note : ByteArray
  F : List Int
abbrev Tries3 := TTry × Option Addr × Nat
abbrev tryC (x : TTry) (fa : Option Addr) (fc : Nat) : Array Value := #[.int .i64 x.tail, .int .i64 x.head, .int .i64 x.fuse, .string x.note, .slice fa x.F.length fc]
def noTry : Tries3 := (⟨0, 0, 0, ⟨#[]⟩, []⟩, none, 0)
/-- the slice at a reads as the tries L -/
def ReadsT (w : World) (a : Option Addr) (L : List Tries3) : Prop := ∀ i (h : i < L.length), ∃ b off, a = some ⟨b, off, none⟩ ∧
  (∀ j v, (tryC L[i].1 L[i].2.1 L[i].2.2).toList[j]? = some v → w.cell? ⟨b, off + i * 5 + j, none⟩ = some v) ∧ (-9223372036854775808 ≤ L[i].1.fuse ∧ L[i].1.fuse ≤ 9223372036854775807) ∧ ReadsI w L[i].2.1 L[i].1.F
theorem readsT_none (w : World) (a : Option Addr) : ReadsT w a [] := by intro i hi; simp at hi
theorem try_at {w0 w : World} {a : Option Addr} {L : List Tries3} (h : ReadsT w0 a L) (hb : Below w0.heap.size w0 w) (k : Nat) (hk : k < L.length) :
    ∃ b off t hh f n F fa fc, L.getD k noTry = (⟨t, hh, f, n, F⟩, fa, fc) ∧ a = some ⟨b, off, none⟩ ∧ b < w0.heap.size ∧ w.cell? ⟨b, off + k * 5, none⟩ = some (.int .i64 t) ∧ w.cell? ⟨b, off + k * 5 + 1, none⟩ = some (.int .i64 hh) ∧ w.cell? ⟨b, off + k * 5 + 2, none⟩ = some (.int .i64 f) ∧ w.cell? ⟨b, off + k * 5 + 3, none⟩ = some (.string n) ∧ w.cell? ⟨b, off + k * 5 + 4, none⟩ = some (.slice fa F.length fc) ∧
      (-9223372036854775808 ≤ f ∧ f ≤ 9223372036854775807) ∧ ReadsI w fa F ∧ ∀ x, fa = some x → F ≠ [] → x.block < w0.heap.size := by
  have e : L.getD k noTry = L[k] := Dk.getD_get L k noTry hk
  obtain ⟨b, off, h1, h2, h3, h4⟩ := h k hk
  have hlt : b < w0.heap.size := World.block_lt_of_cell? w0 _ (h2 0 _ rfl)
  have hc : ∀ j v, (tryC L[k].1 L[k].2.1 L[k].2.2).toList[j]? = some v → w.cell? ⟨b, off + k * 5 + j, none⟩ = some v := fun j v hv => (hb.cell (p := ⟨b, off + k * 5 + j, none⟩) hlt).trans (h2 j v hv)
  exact ⟨b, off, L[k].1.tail, L[k].1.head, L[k].1.fuse, L[k].1.note, L[k].1.F, L[k].2.1, L[k].2.2, e, h1, hlt, hc 0 _ rfl, hc 1 _ rfl, hc 2 _ rfl, hc 3 _ rfl, hc 4 _ rfl, h3, readsI_below h4 hb, readsI_lt h4⟩
end Go.Proofs.Ytedemehlccmkpaa

/-
  Layer 4's laws: arguments that are slices of integers, and of calls, opened.
-/
namespace Go.Proofs.Ytedemehlccmkpaa
open Go.ChangeShapes Go.WideShapes Go.RowKit

theorem addr_mid {a : Addr} {w : World} {v : Value} (h : w.cell? a = some v) (i : Nat) : a.add i = ⟨a.block, a.off + i, none⟩ := by
  obtain ⟨b, o, s⟩ := a
  obtain rfl : s = none := World.cell?_spot h
  exact Addr.add_mid b o i
theorem readsI_open {w : World} {a : Addr} {len cap : Nat} {zs : List Int} (hl : len ≤ cap) (hz : zs.length = cap) (hcell : ∀ i, i < zs.length → w.cell? (a.add i) = some (.int .i64 (zs.getD i 0))) :
    ∃ l : List Int, l.length = len ∧ ReadsI w (some a) l := by
  refine ⟨zs.take len, by rw [List.length_take]; omega, fun i hi => ?_⟩
  have hi2 : i < zs.length := by rw [List.length_take] at hi; omega
  have h0 := hcell 0 (by omega)
  have hc := hcell i hi2
  have e0 : a.add 0 = a := by simp [Addr.add]
  rw [e0] at h0
  rw [addr_mid h0 i] at hc
  obtain ⟨b, o, s⟩ := a
  obtain rfl : s = none := World.cell?_spot h0
  exact ⟨b, o, rfl, by rw [hc, List.getElem_take]; simp [List.getD, List.getElem?_eq_getElem hi2]⟩
theorem i64_fits {n : Int} (h : (Lit.int .i64 n).wf = true) : -9223372036854775808 ≤ n ∧ n ≤ 9223372036854775807 := by
  unfold Lit.wf at h
  rw [Bool.and_eq_true, decide_eq_true_iff, decide_eq_true_iff] at h
  exact h
theorem u8_fits {n : Int} (h : (Lit.int .u8 n).wf = true) : ∃ b : UInt8, n = (b.toNat : Int) := by
  unfold Lit.wf at h
  rw [Bool.and_eq_true, decide_eq_true_iff, decide_eq_true_iff] at h
  have h1 : (0 : Int) ≤ n := h.1
  have h2 : n ≤ 255 := h.2
  exact ⟨UInt8.ofNat n.toNat, by simp; omega⟩
/-- the slice at a reads as the calls L: each with its fates' address and room -/
def ReadsA (w : World) (a : Option Addr) (L : List (DAct × Option Addr × Nat)) : Prop := ∀ i (h : i < L.length), ∃ b off, a = some ⟨b, off, none⟩ ∧
  (∀ j v, (actV L[i].1 L[i].2.1 L[i].2.2).toList[j]? = some v → w.cell? ⟨b, off + i * 5 + j, none⟩ = some v) ∧ -9223372036854775808 ≤ L[i].1.i ∧ L[i].1.i ≤ 9223372036854775807 ∧ ReadsI w L[i].2.1 L[i].1.F
theorem readsA_none (w : World) (a : Option Addr) : ReadsA w a [] := by intro i hi; simp at hi
section
variable {H : Type} {enc : TypeId × Value → H} {w : World} {base : Nat} {spare : Nat → Bool} {held : Bool}
theorem ints_lt {fuel : Nat} {cs : List Value} {x : DataW H × List MemPlace} (h : DataW.trod enc Try.prog w base spare held fuel 42 cs = some x) (hsp : ∀ b, spare b = true) :
    ∃ (a : Option Addr) (l : List Int) (cap : Nat), cs = [.slice a l.length cap] ∧ ReadsI w a l ∧ l.length ≤ maxLen := by
  rcases open_ints Try.underlying42 Try.underlying3 (by kernel_rfl) h with ⟨hcs, _⟩ | ⟨a, len, cap, zs, hcs, _, hl, hm, hz, _, hcell, _⟩
  · exact ⟨none, [], 0, hcs, readsI_none _ _, Nat.zero_le _⟩
  · rw [hsp, if_pos rfl] at hz
    obtain ⟨l, e, hr⟩ := readsI_open hl hz hcell
    exact ⟨some a, l, cap, by rw [e]; exact hcs, hr, by omega⟩
theorem one_cell_list {l : List Value} {k : Nat} (h : k < l.length) : (l.drop k).take 1 = [l[k]] := by
  rw [List.drop_eq_getElem_cons h]; rfl
end
end Go.Proofs.Ytedemehlccmkpaa
