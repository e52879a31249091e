/-
  Layer 6's laws: LabelTurns, walked.
-/
import Derived.Test.YtedemehlccmkpaaPk6
import Derived.Deep.Cut
import Derived.Deep.CutRange
import Derived.Deep.DeepCutAuto
namespace Go.Proofs.Ytedemehlccmkpaa
open Go.RowKit
/-- between two tries: the disk, the label that it has, in both variables -/
structure Between (w0 w : World) (p A B : Nat) (d : Dk.D) (l : Lb.Label) (k : Nat) : Prop where
  one : One w (fun j => (j < w0.heap.size ∨ j = A) ∨ j = B) p d
  was : RowV w A 23 (labC l).toList
  now : RowV w B 23 (labC l).toList
  turns : Lb.Turns d l k
  below : Below w0.heap.size w0 w
  lowA : w0.heap.size ≤ A
  lowB : w0.heap.size ≤ B
  ne : A ≠ B
/-- within a try: x in its box C -/
structure During (w0 w : World) (p A B C : Nat) (d : Dk.D) (was now x : Lb.Label) : Prop where
  one : One w (fun j => ((j < w0.heap.size ∨ j = A) ∨ j = B) ∨ j = C) p d
  rA : RowV w A 23 (labC was).toList
  rB : RowV w B 23 (labC now).toList
  rC : RowV w C 23 (labC x).toList
  below : Below w0.heap.size w0 w
  low : w0.heap.size ≤ A ∧ w0.heap.size ≤ B ∧ w0.heap.size ≤ C
  ne : A ≠ B ∧ A ≠ C ∧ B ≠ C
theorem between_new {w w1 : World} {p : Nat} (h : One w1 (fun k => k < w.heap.size) p (Dk.new 2)) (hb : Below w.heap.size w w1) :
    Between w ((w1.alloc (.cells (labC ⟨0, 0, 0, ⟨#[]⟩⟩) 23)).alloc (.cells (labC ⟨0, 0, 0, ⟨#[]⟩⟩) 23)) p w1.heap.size (w1.heap.size + 1) (Dk.new 2) ⟨0, 0, 0, ⟨#[]⟩⟩ 0 := by
  obtain ⟨b1, l1, r1⟩ := lab_box ⟨0, 0, 0, ⟨#[]⟩⟩ w1
  obtain ⟨b2, l2, r2⟩ := lab_box ⟨0, 0, 0, ⟨#[]⟩⟩ (w1.alloc (.cells (labC ⟨0, 0, 0, ⟨#[]⟩⟩) 23))
  have hs : (w1.alloc (.cells (labC ⟨0, 0, 0, ⟨#[]⟩⟩) 23)).heap.size = w1.heap.size + 1 := by simp
  have h1 := one_more (one_more h b1 l1) b2 l2
  rw [hs] at h1 r2
  have hz := hb.size
  exact ⟨h1, rowV_alloc r1 _, r2, Lb.turns_new, (hb.trans (b1.mono hz)).trans (b2.mono (by rw [hs]; omega)), hz, by omega, by omega⟩
theorem during_new {w0 w : World} {p A B k : Nat} {d : Dk.D} {l : Lb.Label} (h : Between w0 w p A B d l k) (x : Lb.Label) :
    During w0 (w.alloc (.cells (labC x) 23)).drew p A B w.heap.size d l l x := by
  obtain ⟨b1, l1, r1⟩ := lab_box x w
  have h1 := one_below (one_more h.one b1 l1) (Below.refl _ _).drew
  have hz := h.below.size
  have hA := rowV_lt h.was
  have hB := rowV_lt h.now
  exact ⟨h1, rowV_drew (rowV_alloc h.was _), rowV_drew (rowV_alloc h.now _), rowV_drew r1, (h.below.trans (b1.mono hz)).drew, ⟨h.lowA, h.lowB, hz⟩, h.ne, by omega, by omega⟩
section
variable {w0 w : World} {p A B C : Nat} {d : Dk.D} {was now x : Lb.Label}
theorem during_below {w' : World} (h : During w0 w p A B C d was now x) (hb : Below w.heap.size w w') : During w0 w' p A B C d was now x :=
  ⟨one_below h.one hb, rowV_below h.rA hb (rowV_lt h.rA), rowV_below h.rB hb (rowV_lt h.rB), rowV_below h.rC hb (rowV_lt h.rC), h.below.trans (hb.mono h.below.size), h.low, h.ne⟩
theorem during_only {w' : World} {d' : Dk.D} (h : During w0 w p A B C d was now x) (h1 : One w' (fun j => ((j < w0.heap.size ∨ j = A) ∨ j = B) ∨ j = C) p d') (ho : Only (fun k => ¬ (((k < w0.heap.size ∨ k = A) ∨ k = B) ∨ k = C)) w w') : During w0 w' p A B C d' was now x :=
  ⟨h1, rowV_only h.rA ho (fun hn => hn (.inl (.inl (.inr rfl)))), rowV_only h.rB ho (fun hn => hn (.inl (.inr rfl))), rowV_only h.rC ho (fun hn => hn (.inr rfl)), h.below.trans (ho.below (fun _ _ hn => Nat.le_of_not_lt fun hlt => hn (.inl (.inl (.inl hlt)))) h.below.size), h.low, h.ne⟩
theorem during_turn (h : During w0 w p A B C d was now x) (n : Int) : During w0 (w.setCell ⟨C, 0, none⟩ (.int .i64 n)) p A B C d was now ⟨n, x.tail, x.head, x.note⟩ := by
  have ho : Only (fun k => k = C) w (w.setCell ⟨C, 0, none⟩ (.int .i64 n)) := (Only.refl (fun k => k = C) w).setCell (g := C) (fun _ => rfl) _
  exact ⟨one_at h.one ho (fun k hk => .inr hk), rowV_far h.rA h.ne.2.1 _, rowV_far h.rB h.ne.2.2 _, rowV_stored h.rC 0 _, h.below.setCell (p := ⟨C, 0, none⟩) h.low.2.2 _, h.low, h.ne⟩
theorem only_put (w : World) (g : Nat) (t a h : Int) (n : ByteArray) : Only (fun k => k = g) w ((((w.setCell ⟨g, 0, none⟩ (.int .i64 t)).setCell ⟨g, 1, none⟩ (.int .i64 a)).setCell ⟨g, 2, none⟩ (.int .i64 h)).setCell ⟨g, 3, none⟩ (.string n)) :=
  ((((Only.refl (fun k => k = g) w).setCell (g := g) (fun _ => rfl) _).setCell (g := g) (fun _ => rfl) _).setCell (g := g) (fun _ => rfl) _).setCell (g := g) (fun _ => rfl) _
theorem during_A (h : During w0 w p A B C d was now x) (t a hh : Int) (n : ByteArray) : During w0 ((((w.setCell ⟨A, 0, none⟩ (.int .i64 t)).setCell ⟨A, 1, none⟩ (.int .i64 a)).setCell ⟨A, 2, none⟩ (.int .i64 hh)).setCell ⟨A, 3, none⟩ (.string n)) p A B C d ⟨t, a, hh, n⟩ now x := by
  have ho := only_put w A t a hh n
  exact ⟨one_at h.one ho (fun k hk => .inl (.inl (.inr hk))), (lab_put h.rA t a hh n).1, rowV_only h.rB ho (fun e => h.ne.1 e.symm), rowV_only h.rC ho (fun e => h.ne.2.1 e.symm), h.below.trans ((lab_put h.rA t a hh n).2 _ h.low.1), h.low, h.ne⟩
theorem during_B (h : During w0 w p A B C d was now x) (t a hh : Int) (n : ByteArray) : During w0 ((((w.setCell ⟨B, 0, none⟩ (.int .i64 t)).setCell ⟨B, 1, none⟩ (.int .i64 a)).setCell ⟨B, 2, none⟩ (.int .i64 hh)).setCell ⟨B, 3, none⟩ (.string n)) p A B C d was ⟨t, a, hh, n⟩ x := by
  have ho := only_put w B t a hh n
  exact ⟨one_at h.one ho (fun k hk => .inl (.inr hk)), rowV_only h.rA ho (fun e => h.ne.1 e), (lab_put h.rB t a hh n).1, rowV_only h.rC ho (fun e => h.ne.2.2 e.symm), h.below.trans ((lab_put h.rB t a hh n).2 _ h.low.2.1), h.low, h.ne⟩
theorem lab_one (t a h : Int) (n : ByteArray) : (#[.int .i64 t, .int .i64 a, .int .i64 h, .string n] : Array Value).all (·.oneCell') = true := by
  rw [Array.all_eq_true_iff_forall_mem]
  intro x hx
  simp at hx
  rcases hx with rfl | rfl | rfl | rfl <;> rfl
theorem during_rowA (h : During w0 w p A B C d was now x) (t a hh : Int) (n : ByteArray) : During w0 (w.setRow A #[.int .i64 t, .int .i64 a, .int .i64 hh, .string n]) p A B C d ⟨t, a, hh, n⟩ now x := by
  have ho : Only (fun k => k = A) w (w.setRow A #[.int .i64 t, .int .i64 a, .int .i64 hh, .string n]) := (Only.refl (fun k => k = A) w).setRow (g := A) (fun _ => rfl) _
  exact ⟨one_at h.one ho (fun k hk => .inl (.inl (.inr hk))), rowV_row h.rA [_, _, _, _], rowV_only h.rB ho (fun e => h.ne.1 e.symm), rowV_only h.rC ho (fun e => h.ne.2.1 e.symm), h.below.trans (ho.below (fun k _ hk => hk ▸ h.low.1) h.below.size), h.low, h.ne⟩
theorem during_rowB (h : During w0 w p A B C d was now x) (t a hh : Int) (n : ByteArray) : During w0 (w.setRow B #[.int .i64 t, .int .i64 a, .int .i64 hh, .string n]) p A B C d was ⟨t, a, hh, n⟩ x := by
  have ho : Only (fun k => k = B) w (w.setRow B #[.int .i64 t, .int .i64 a, .int .i64 hh, .string n]) := (Only.refl (fun k => k = B) w).setRow (g := B) (fun _ => rfl) _
  exact ⟨one_at h.one ho (fun k hk => .inl (.inr hk)), rowV_only h.rA ho (fun e => h.ne.1 e), rowV_row h.rB [_, _, _, _], rowV_only h.rC ho (fun e => h.ne.2.2 e.symm), h.below.trans (ho.below (fun k _ hk => hk ▸ h.low.2.1) h.below.size), h.low, h.ne⟩
theorem between_of {k : Nat} (h : During w0 w p A B C d was now x) (e : was = now) (ht : Lb.Turns d was k) : Between w0 w p A B d was k :=
  ⟨one_less h.one fun _ h => .inl h, h.rA, e ▸ h.rB, ht, h.below, h.low.1, h.low.2.1, h.ne.1⟩
theorem row_cells {g : Nat} {l : Lb.Label} (h : RowV w g 23 (labC l).toList) :
    w.cell? ⟨g, 0, none⟩ = some (.int .i64 l.turn) ∧ w.cell? ⟨g, 1, none⟩ = some (.int .i64 l.tail) ∧ w.cell? ⟨g, 2, none⟩ = some (.int .i64 l.head) ∧ w.cell? ⟨g, 3, none⟩ = some (.string l.note) ∧
    w.frozen? ⟨g, 0, none⟩ = false ∧ w.frozen? ⟨g, 1, none⟩ = false ∧ w.frozen? ⟨g, 2, none⟩ = false ∧ w.frozen? ⟨g, 3, none⟩ = false :=
  ⟨rowV_cell h 0, rowV_cell h 1, rowV_cell h 2, rowV_cell h 3, rowV_frozen h 0, rowV_frozen h 1, rowV_frozen h 2, rowV_frozen h 3⟩
end
set_option maxRecDepth 100000 in
set_option maxHeartbeats 4000000 in
theorem turns_in (L : List Tries3) (la : Option Addr) (lc : Nat) (w : World) (hL : ReadsT w la L) (l15 : L.length ≤ 15) :
    Calls Try.prog 5 #[.slice la L.length lc] w fun e w' => e = .returned (.bool true) ∧ Below w.heap.size w w' := by
  have HH := Lib.hid hL; clear hL
  have b2 : ¬ (15 : Int) < (L.length : Int) := by omega
  go_enter Try.func5, Try.ntmps5
  go_wp2_with fail
  refine (newL_any 2 w).mono ?_
  rintro e w1 (⟨h, _⟩ | ⟨_, _, p, rfl, hd, hb⟩)
  · exact absurd ⟨by omega, by omega⟩ h
  have H1 := Lib.hid (between_new (one_new hd hb) hb); clear hd hb
  go_wp2_with fail
  generalize hw2 : World.alloc (World.alloc w1 _) _ = w2 at *
  have H2 : Hid (Between w w2 p w1.heap.size (w1.heap.size + 1) (Dk.new 2) ⟨0, 0, 0, ⟨#[]⟩⟩ 0) := Lib.hid H1.out
  clear H1 hw2
  generalize w1.heap.size = A at *
  generalize hB : A + 1 = B at *
  clear hB
  go_loopw [7] (fun i wr => ∃ k : Nat, k ≤ L.length ∧ i = .int .i64 (k : Int) ∧ ∃ d l, Hid (Between w wr p A B d l k)) (fun i _ => L.length - (intOf i).toNat)
  case atStart => exact ⟨0, by omega, rfl, _, _, H2⟩
  case round =>
    obtain ⟨k, hk, rfl, d, l, HB⟩ := hrel
    by_cases hlt : k < L.length
    · obtain ⟨b, off, t, hh, f, n, F, fa, fc, hx, rfl, hbl, a0, a1, a2, a3, a4, hf, hF, hFl⟩ := try_at HH.out (Below.refl _ w) k hlt
      have cc : ∀ w', Below w.heap.size w w' → ∀ j v, w.cell? ⟨b, off + k * 5 + j, none⟩ = some v → w'.cell? ⟨b, off + k * 5 + j, none⟩ = some v := fun w' hb j v hv => (hb.cell (p := ⟨b, off + k * 5 + j, none⟩) hbl).trans hv
      have d0 : wr.cell? ⟨b, off + k * 5, none⟩ = some (.int .i64 t) := cc wr HB.out.below 0 _ a0
      have d1 : wr.cell? ⟨b, off + k * 5 + 1, none⟩ = some (.int .i64 hh) := cc wr HB.out.below 1 _ a1
      have d3 : wr.cell? ⟨b, off + k * 5 + 3, none⟩ = some (.string n) := cc wr HB.out.below 3 _ a3
      have hba := HB.out.below.trans ((Below.refl w.heap.size wr).alloc HB.out.below.size (.cells #[.int .i64 0, .int .i64 0, .int .i64 0, .string ⟨#[]⟩] 23))
      have g0 : (wr.alloc (.cells #[.int .i64 0, .int .i64 0, .int .i64 0, .string ⟨#[]⟩] 23)).cell? ⟨b, off + k * 5, none⟩ = some (.int .i64 t) := cc _ hba 0 _ a0
      have g1 : (wr.alloc (.cells #[.int .i64 0, .int .i64 0, .int .i64 0, .string ⟨#[]⟩] 23)).cell? ⟨b, off + k * 5 + 1, none⟩ = some (.int .i64 hh) := cc _ hba 1 _ a1
      have g3 : (wr.alloc (.cells #[.int .i64 0, .int .i64 0, .int .i64 0, .string ⟨#[]⟩] 23)).cell? ⟨b, off + k * 5 + 3, none⟩ = some (.string n) := cc _ hba 3 _ a3
      have HT := Lib.hid (And.intro cc (And.intro hF (And.intro hFl (And.intro a2 a4))))
      clear cc hF hFl a0 a1 a2 a3 a4 hba
      obtain ⟨lt, lla, lh, ln⟩ := l
      obtain ⟨m, hm⟩ : ∃ m, (Lb.next d).2.1 = m := ⟨_, rfl⟩
      have TS := Lb.turn_step HB.out.turns (by omega) f F ⟨m, t, hh, n⟩
      have hfr := Lb.turns_fresh HB.out.turns
      have hW := Lb.turns_W HB.out.turns f
      rw [hm] at TS hfr
      obtain ⟨e0, -, m1, -, hno, hyes⟩ := TS
      dsimp only [Lb.at_] at hno hyes
      have ek : ((k : Int) + 1) = ((k + 1 : Nat) : Int) := by push_cast; rfl
      rw [ek] at hno hyes
      have q0 : (m == lt) = false := by rw [beq_eq_false_iff_ne]; have hfr : lt < m := hfr; omega
      have q1 : (m == 0) = false := by rw [beq_eq_false_iff_ne]; omega
      have HM := Lib.hid (And.intro e0 (And.intro hm (And.intro hno (And.intro hyes (And.intro hW (And.intro hf m1))))))
      clear e0 hm hno hyes hW hf m1 hfr ek hx
      go_wp2_with fail
      go_region
      generalize hw3 : World.drew _ = w3 at *
      have D3 : Hid (During w w3 p A B wr.heap.size d ⟨lt, lla, lh, ln⟩ ⟨lt, lla, lh, ln⟩ ⟨0, t, hh, n⟩) := Lib.hid (by rw [← hw3]; exact during_new HB.out ⟨0, t, hh, n⟩)
      clear hw3 d0 d1 d3 g0 g1 g3
      generalize wr.heap.size = C at *
      have hnx := one_next D3.out.one
      rw [HM.out.1, HM.out.2.1] at hnx
      generalize (Lb.next d).1 = ix at hnx
      have HN := Lib.hid hnx
      clear hnx
      go_wp2_with fail
      refine HN.out.mono ?_
      rintro e w4 ⟨rfl, hb4⟩
      have D4 := Lib.hid (during_below D3.out hb4)
      clear hb4 HN D3
      obtain ⟨c0, c1, c2, c3, f0, -, -, -⟩ := row_cells D4.out.rC
      dsimp only at c0 c1 c2 c3
      by_cases hz : 1000 < n.size
      · have t1 : (1000 : Int) < (n.size : Int) := by omega
        go_wp2_with fail
        refine (lives6_any _).mono ?_
        rintro e w6 ⟨rfl, hb6⟩
        have H6 := Lib.hid (D4.out.below.trans (hb6.mono D4.out.below.size)); clear hb6
        go_wp2_with fail
        go_ret
        exact ⟨rfl, H6.out⟩
      · have t1 : ¬ (1000 : Int) < (n.size : Int) := by omega
        have D5 := Lib.hid (during_turn D4.out m)
        have cB := fun w => bytes6_any ⟨m, t, hh, n⟩ w
        have hbe : Lb.bytesE ⟨m, t, hh, n⟩ = 0 ∨ Lb.bytesE ⟨m, t, hh, n⟩ = 2 := by by_cases hr : Lb.right ⟨m, t, hh, n⟩; exact .inl (bytes6_yes hr).2; exact .inr (bytes6_no hr).2
        have hcase : (Lb.bytesE ⟨m, t, hh, n⟩ = 2 ∧ Lb.writeE (Dk.arm d f) ⟨m, t, hh, n⟩ = 2 ∧ Lb.Turns (Dk.crash (Lb.write (Dk.arm d f) ⟨m, t, hh, n⟩) F) ⟨lt, lla, lh, ln⟩ ((k + 1 : Nat) : Int)) ∨ (Lb.bytesE ⟨m, t, hh, n⟩ = 0 ∧ Lb.writeE (Dk.arm d f) ⟨m, t, hh, n⟩ = 0 ∧ Lb.Turns (Dk.crash (Lb.write (Dk.arm d f) ⟨m, t, hh, n⟩) F) ⟨m, t, hh, n⟩ ((k + 1 : Nat) : Int)) ∨ (Lb.bytesE ⟨m, t, hh, n⟩ = 0 ∧ Lb.writeE (Dk.arm d f) ⟨m, t, hh, n⟩ = 7 ∧ (Lb.Turns (Dk.crash (Lb.write (Dk.arm d f) ⟨m, t, hh, n⟩) F) ⟨lt, lla, lh, ln⟩ ((k + 1 : Nat) : Int) ∨ Lb.Turns (Dk.crash (Lb.write (Dk.arm d f) ⟨m, t, hh, n⟩) F) ⟨m, t, hh, n⟩ ((k + 1 : Nat) : Int))) := by
          by_cases hr : Lb.right ⟨m, t, hh, n⟩
          · rcases HM.out.2.2.2.1 hr with ⟨h1, h2⟩ | ⟨h1, h2⟩
            · exact .inr (.inl ⟨(bytes6_yes hr).2, h1, h2⟩)
            · exact .inr (.inr ⟨(bytes6_yes hr).2, h1, h2⟩)
          · obtain ⟨h1, h2⟩ := HM.out.2.2.1 hr
            exact .inl ⟨(bytes6_no hr).2, h1, h2⟩
        clear hbe
        have hwr0 : ∀ w7, One w7 (fun j => ((j < w.heap.size ∨ j = A) ∨ j = B) ∨ j = C) p (Dk.arm d f) → _ := fun w7 h7 => one_write h7 ⟨m, t, hh, n⟩ HM.out.2.2.2.2.1
        generalize Lb.bytesE ⟨m, t, hh, n⟩ = BE at *
        generalize Lb.bytes ⟨m, t, hh, n⟩ = BB at *
        generalize Lb.writeE (Dk.arm d f) ⟨m, t, hh, n⟩ = WE at *
        generalize Lb.write (Dk.arm d f) ⟨m, t, hh, n⟩ = WD at *
        have q3 : (WE == 2) = (BE == 2) := by rcases hcase with ⟨rfl, rfl, _⟩ | ⟨rfl, rfl, _⟩ | ⟨rfl, rfl, _⟩ <;> rfl
        have HCs := Lib.hid hcase
        have HWr0 := Lib.hid hwr0
        clear hcase hwr0
        have HBy := Lib.hid cB
        clear cB hz
        go_wp2_with fail
        generalize hw5 : World.setCell _ _ _ = w5 at *
        clear hw5 c0 c1 c2 c3 f0
        refine (HBy.out _).mono ?_
        rintro e w6 ⟨rfl, hb6⟩
        have D6 := Lib.hid (during_below D5.out hb6)
        clear hb6 D5
        have d2 : w6.cell? ⟨b, off + k * 5 + 2, none⟩ = some (.int .i64 f) := HT.out.1 w6 D6.out.below 2 _ HT.out.2.2.2.1
        go_wp2_with fail
        refine (one_arm D6.out.one f HM.out.2.2.2.2.2.1.1 HM.out.2.2.2.2.2.1.2).mono ?_
        rintro e w7 ⟨rfl, h7, ho7⟩
        have D7 := Lib.hid (during_only D6.out h7 ho7)
        clear h7 ho7 d2 D6
        obtain ⟨c0, c1, c2, c3, -, -, -, -⟩ := row_cells D7.out.rC
        dsimp only at c0 c1 c2 c3
        go_wp2_with fail
        refine (HWr0.out _ D7.out.one).mono ?_
        rintro e w8 ⟨rfl, h8, ho8⟩
        have D8 := Lib.hid (during_only D7.out h8 ho8)
        clear h8 ho8 D7 HWr0 c0 c1 c2 c3
        go_upto_if 97 with fail
        go_cut [] from 33 to 140 (fun wc => ∃ nt na nh nn, Hid (During w wc p A B C WD ⟨lt, lla, lh, ln⟩ ⟨nt, na, nh, nn⟩ ⟨m, t, hh, n⟩) ∧ Hid ((BE = 0 ∧ Lb.Label.mk nt na nh nn = ⟨m, t, hh, n⟩) ∨ (BE ≠ 0 ∧ Lb.Label.mk nt na nh nn = ⟨lt, lla, lh, ln⟩)))
        case first =>
          obtain ⟨c0, c1, c2, c3, -, -, -, -⟩ := row_cells D8.out.rC
          dsimp only at c0 c1 c2 c3
          by_cases g0 : BE = 0
          · have qb : (BE == 0) = true := by rw [g0]; rfl
            have G0 := Lib.hid g0
            clear g0
            go_wp2_with (first | (refine wpList_store_row rfl 23 _ _ rfl B #[.int .i64 m, .int .i64 t, .int .i64 hh, .string n] rfl rfl 23 _ D8.out.rB info_lab rfl (lab_one _ _ _ _) ?_; have D9 := Lib.hid (during_rowB D8.out m t hh n); generalize hwD9 : World.setRow _ _ _ = w9 at *; clear hwD9 c0 c1 c2 c3 D8))
            go_meet
            exact ⟨_, _, _, _, D9, Lib.hid (.inl ⟨G0.out, rfl⟩)⟩
          · have qb : (BE == 0) = false := by rw [beq_eq_false_iff_ne]; exact g0
            have G0 := Lib.hid g0
            clear g0
            go_wp2_with fail
            go_meet
            exact ⟨_, _, _, _, D8, Lib.hid (.inr ⟨G0.out, rfl⟩)⟩
        case rest =>
          obtain ⟨nt, na, nh, nn, DN, HR1⟩ := hcut
          clear D8
          go_upto_if 100 with fail
          go_cut [] from 33 to 140 (fun wd => ∃ wt wa wh wn, Hid (During w wd p A B C WD ⟨wt, wa, wh, wn⟩ ⟨nt, na, nh, nn⟩ ⟨m, t, hh, n⟩) ∧ Hid ((WE = 0 ∧ Lb.Label.mk wt wa wh wn = ⟨m, t, hh, n⟩) ∨ (WE ≠ 0 ∧ Lb.Label.mk wt wa wh wn = ⟨lt, lla, lh, ln⟩)))
          case first =>
            obtain ⟨c0, c1, c2, c3, -, -, -, -⟩ := row_cells DN.out.rC
            dsimp only at c0 c1 c2 c3
            by_cases g0 : WE = 0
            · have qb : (WE == 0) = true := by rw [g0]; rfl
              have G0 := Lib.hid g0
              clear g0
              go_wp2_with (first | (refine wpList_store_row rfl 23 _ _ rfl A #[.int .i64 m, .int .i64 t, .int .i64 hh, .string n] rfl rfl 23 _ DN.out.rA info_lab rfl (lab_one _ _ _ _) ?_; have D9 := Lib.hid (during_rowA DN.out m t hh n); generalize hwD9 : World.setRow _ _ _ = w9 at *; clear hwD9 c0 c1 c2 c3))
              go_meet
              exact ⟨_, _, _, _, D9, Lib.hid (.inl ⟨G0.out, rfl⟩)⟩
            · have qb : (WE == 0) = false := by rw [beq_eq_false_iff_ne]; exact g0
              have G0 := Lib.hid g0
              clear g0
              go_wp2_with fail
              go_meet
              exact ⟨_, _, _, _, DN, Lib.hid (.inr ⟨G0.out, rfl⟩)⟩
          case rest =>
            obtain ⟨wt, wa, wh, wn, DW, HR2⟩ := hcut
            clear DN
            have hy : Lb.Turns (Dk.crash WD F) ⟨wt, wa, wh, wn⟩ ((k + 1 : Nat) : Int) ∨ (Lb.Turns (Dk.crash WD F) ⟨m, t, hh, n⟩ ((k + 1 : Nat) : Int) ∧ Lb.Label.mk nt na nh nn = ⟨m, t, hh, n⟩ ∧ Lb.Label.mk wt wa wh wn = ⟨lt, lla, lh, ln⟩) := by
              rcases HCs.out with ⟨b2, w2, T⟩ | ⟨b0, w0, T⟩ | ⟨b0, w7, T⟩
              · left; rcases HR2.out with ⟨h, _⟩ | ⟨_, h⟩
                · exact absurd (w2.symm.trans h) (by decide)
                · rw [h]; exact T
              · left; rcases HR2.out with ⟨_, h⟩ | ⟨h, _⟩
                · rw [h]; exact T
                · exact absurd w0 h
              · have hl : Lb.Label.mk wt wa wh wn = ⟨lt, lla, lh, ln⟩ := by rcases HR2.out with ⟨h, _⟩ | ⟨_, h⟩; exact absurd (w7.symm.trans h) (by decide); exact h
                have hx : Lb.Label.mk nt na nh nn = ⟨m, t, hh, n⟩ := by rcases HR1.out with ⟨_, h⟩ | ⟨h, _⟩; exact h; exact absurd b0 h
                rcases T with T | T
                · left; rw [hl]; exact T
                · exact .inr ⟨T, hx, hl⟩
            clear HCs HR1 HR2
            have d4 : wc.cell? ⟨b, off + k * 5 + 4, none⟩ = some (.slice fa F.length fc) := HT.out.1 wc DW.out.below 4 _ HT.out.2.2.2.2
            go_wp2_with fail
            refine (one_crash DW.out.one fa F fc (readsI_below HT.out.2.1 DW.out.below) (fun a ha hne => .inl (.inl (.inl (HT.out.2.2.1 a ha hne))))).mono ?_
            rintro e w11 ⟨rfl, h11, ho11⟩
            have D11 := Lib.hid (during_only DW.out h11 ho11)
            clear h11 ho11 DW d4
            go_wp2_with fail
            rcases hy with hT | ⟨hT, hx, hl⟩
            · have HTu := Lib.hid hT
              clear hT
              obtain ⟨r1, r2⟩ := Lb.turns_read HTu.out
              rcases r2 with ⟨r3, r4⟩ | ⟨r3, r4⟩
              · have q2 : (wt == 0) = false := by rw [beq_eq_false_iff_ne]; have r4 : 1 ≤ wt := r4; omega
                clear r4
                have hrd := one_read D11.out.one
                rw [r1, r3] at hrd
                clear r1 r3
                have HRd := Lib.hid hrd
                clear hrd
                refine HRd.out.mono ?_
                rintro e w12 ⟨rfl, hb12⟩
                have D12 := Lib.hid (during_below D11.out hb12)
                clear hb12 D11 HRd
                have bx := (lab_box ⟨wt, wa, wh, wn⟩ w12).1
                have D13 := Lib.hid (during_below D12.out bx)
                clear bx
                have ry := rowV_new w12 23 (labC ⟨wt, wa, wh, wn⟩).toList
                obtain ⟨a0, a1, a2, a3, af0, af1, af2, af3⟩ := row_cells D13.out.rA
                obtain ⟨b0, b1, b2, b3, bf0, bf1, bf2, bf3⟩ := row_cells D13.out.rB
                dsimp only at a0 a1 a2 a3 b0 b1 b2 b3
                have nAB := D13.out.ne.1
                go_wp2_with fail
                generalize hw13 : World.alloc w12 _ = w13 at *
                have D14 : Hid (During w w13 p A B C (Dk.crash WD F) ⟨wt, wa, wh, wn⟩ ⟨nt, na, nh, nn⟩ ⟨m, t, hh, n⟩) := Lib.hid D13.out
                have e0 : w13.cell? ⟨w12.heap.size, 0, none⟩ = some (.int .i64 wt) := rowV_cell ry 0
                have e1 : w13.cell? ⟨w12.heap.size, 1, none⟩ = some (.int .i64 wa) := rowV_cell ry 1
                have e2 : w13.cell? ⟨w12.heap.size, 2, none⟩ = some (.int .i64 wh) := rowV_cell ry 2
                have e3 : w13.cell? ⟨w12.heap.size, 3, none⟩ = some (.string wn) := rowV_cell ry 3
                have nYA : w12.heap.size ≠ A := by have := rowV_lt D12.out.rA; omega
                have nYB : w12.heap.size ≠ B := by have := rowV_lt D12.out.rB; omega
                clear hw13 D13 D12 ry
                generalize w12.heap.size = Y at *
                go_region
                have BT := between_of (k := k + 1) (during_below (during_B (during_A D14.out wt wa wh wn) wt wa wh wn) (Below.refl _ _).drew) rfl HTu.out
                go_wp2_with fail
                exact ⟨⟨k + 1, by omega, by go_num, _, _, Lib.hid BT⟩, by simp [intOf]; omega⟩
              · obtain ⟨rfl, rfl, rfl, rfl⟩ : wt = 0 ∧ wa = 0 ∧ wh = 0 ∧ wn = ⟨#[]⟩ := ⟨congrArg Lb.Label.turn r4, congrArg Lb.Label.tail r4, congrArg Lb.Label.head r4, congrArg Lb.Label.note r4⟩
                clear r4
                have hrd := one_read D11.out.one
                rw [r1, r3] at hrd
                clear r1 r3
                have HRd := Lib.hid hrd
                clear hrd
                refine HRd.out.mono ?_
                rintro e w12 ⟨rfl, hb12⟩
                have D12 := Lib.hid (during_below D11.out hb12)
                clear hb12 D11 HRd
                have bx := (lab_box ⟨0, 0, 0, ⟨#[]⟩⟩ w12).1
                have D13 := Lib.hid (during_below D12.out bx)
                clear bx
                have ry := rowV_new w12 23 (labC ⟨0, 0, 0, ⟨#[]⟩⟩).toList
                obtain ⟨a0, a1, a2, a3, af0, af1, af2, af3⟩ := row_cells D13.out.rA
                obtain ⟨b0, b1, b2, b3, bf0, bf1, bf2, bf3⟩ := row_cells D13.out.rB
                dsimp only at a0 a1 a2 a3 b0 b1 b2 b3
                have nAB := D13.out.ne.1
                go_wp2_with fail
                generalize hw13 : World.alloc w12 _ = w13 at *
                have D14 : Hid (During w w13 p A B C (Dk.crash WD F) ⟨0, 0, 0, ⟨#[]⟩⟩ ⟨nt, na, nh, nn⟩ ⟨m, t, hh, n⟩) := Lib.hid D13.out
                have e0 : w13.cell? ⟨w12.heap.size, 0, none⟩ = some (.int .i64 0) := rowV_cell ry 0
                have e1 : w13.cell? ⟨w12.heap.size, 1, none⟩ = some (.int .i64 0) := rowV_cell ry 1
                have e2 : w13.cell? ⟨w12.heap.size, 2, none⟩ = some (.int .i64 0) := rowV_cell ry 2
                have e3 : w13.cell? ⟨w12.heap.size, 3, none⟩ = some (.string ⟨#[]⟩) := rowV_cell ry 3
                have nYA : w12.heap.size ≠ A := by have := rowV_lt D12.out.rA; omega
                have nYB : w12.heap.size ≠ B := by have := rowV_lt D12.out.rB; omega
                clear hw13 D13 D12 ry
                generalize w12.heap.size = Y at *
                go_region
                have BT := between_of (k := k + 1) (during_below (during_B (during_A D14.out 0 0 0 ⟨#[]⟩) 0 0 0 ⟨#[]⟩) (Below.refl _ _).drew) rfl HTu.out
                go_wp2_with fail
                exact ⟨⟨k + 1, by omega, by go_num, _, _, Lib.hid BT⟩, by simp [intOf]; omega⟩
            · have HTu := Lib.hid hT
              clear hT
              obtain ⟨rfl, rfl, rfl, rfl⟩ : m = nt ∧ t = na ∧ hh = nh ∧ n = nn := ⟨(congrArg Lb.Label.turn hx).symm, (congrArg Lb.Label.tail hx).symm, (congrArg Lb.Label.head hx).symm, (congrArg Lb.Label.note hx).symm⟩
              obtain ⟨rfl, rfl, rfl, rfl⟩ : lt = wt ∧ lla = wa ∧ lh = wh ∧ ln = wn := ⟨(congrArg Lb.Label.turn hl).symm, (congrArg Lb.Label.tail hl).symm, (congrArg Lb.Label.head hl).symm, (congrArg Lb.Label.note hl).symm⟩
              clear hx hl
              obtain ⟨r1, r2⟩ := Lb.turns_read HTu.out
              have r3 : (Lb.read (Dk.crash WD F)).2 = 0 := by rcases r2 with ⟨h, _⟩ | ⟨_, h⟩; exact h; exact absurd (congrArg Lb.Label.turn h) (by have := HM.out.2.2.2.2.2.2; show ¬ m = 0; omega)
              have hrd := one_read D11.out.one
              rw [r1, r3] at hrd
              clear r1 r2 r3
              have HRd := Lib.hid hrd
              clear hrd
              refine HRd.out.mono ?_
              rintro e w12 ⟨rfl, hb12⟩
              have D12 := Lib.hid (during_below D11.out hb12)
              clear hb12 D11 HRd
              have bx := (lab_box ⟨m, t, hh, n⟩ w12).1
              have D13 := Lib.hid (during_below D12.out bx)
              clear bx
              have ry := rowV_new w12 23 (labC ⟨m, t, hh, n⟩).toList
              obtain ⟨a0, a1, a2, a3, af0, af1, af2, af3⟩ := row_cells D13.out.rA
              obtain ⟨b0, b1, b2, b3, bf0, bf1, bf2, bf3⟩ := row_cells D13.out.rB
              dsimp only at a0 a1 a2 a3 b0 b1 b2 b3
              have nAB := D13.out.ne.1
              go_wp2_with fail
              generalize hw13 : World.alloc w12 _ = w13 at *
              have D14 : Hid (During w w13 p A B C (Dk.crash WD F) ⟨lt, lla, lh, ln⟩ ⟨m, t, hh, n⟩ ⟨m, t, hh, n⟩) := Lib.hid D13.out
              have e0 : w13.cell? ⟨w12.heap.size, 0, none⟩ = some (.int .i64 m) := rowV_cell ry 0
              have e1 : w13.cell? ⟨w12.heap.size, 1, none⟩ = some (.int .i64 t) := rowV_cell ry 1
              have e2 : w13.cell? ⟨w12.heap.size, 2, none⟩ = some (.int .i64 hh) := rowV_cell ry 2
              have e3 : w13.cell? ⟨w12.heap.size, 3, none⟩ = some (.string n) := rowV_cell ry 3
              have nYA : w12.heap.size ≠ A := by have := rowV_lt D12.out.rA; omega
              have nYB : w12.heap.size ≠ B := by have := rowV_lt D12.out.rB; omega
              clear hw13 D13 D12 ry
              generalize w12.heap.size = Y at *
              go_region
              have BT := between_of (k := k + 1) (during_below (during_B (during_A D14.out m t hh n) m t hh n) (Below.refl _ _).drew) rfl HTu.out
              go_wp2_with fail
              exact ⟨⟨k + 1, by omega, by go_num, _, _, Lib.hid BT⟩, by simp [intOf]; omega⟩
    · obtain rfl : k = L.length := by omega
      go_wp2_with fail
      refine (lives6_any _).mono ?_
      rintro e w6 ⟨rfl, hb6⟩
      have H6 := Lib.hid (HB.out.below.trans (hb6.mono HB.out.below.size)); clear hb6
      go_wp2_with fail
      go_ret
      exact ⟨rfl, H6.out⟩
end Go.Proofs.Ytedemehlccmkpaa
