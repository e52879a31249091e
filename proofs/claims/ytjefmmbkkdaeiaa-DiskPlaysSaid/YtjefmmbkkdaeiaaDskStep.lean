/-
  Layer 4's laws: a call of both disks.
-/
import Derived.Test.YtjefmmbkkdaeiaaDskTwo
namespace Go.Proofs.Ytjefmmbkkdaeiaa
open Go.RowKit
/-- what step makes of a disk -/
def stepD (d : Dk.D) (x : DAct) : Dk.D := if x.kind = 0 then Dk.write d x.i (blkB x.a x.b) else if x.kind = 1 then d else if x.kind = 2 then Dk.flush d else if x.kind = 3 then Dk.arm d x.i else if x.kind = 4 then Dk.crash d x.F else Dk.write d x.i (shortB x.i)
theorem stepD_W (d : Dk.D) (x : DAct) : (stepD d x).W.length ≤ d.W.length + 1 := by
  unfold stepD
  repeat' split
  · unfold Dk.write
    repeat' split
    all_goals simp
  · omega
  · unfold Dk.flush
    repeat' split
    all_goals simp
  · unfold Dk.arm
    split <;> simp
  · show ([] : List (Nat × ByteArray)).length ≤ _; simp
  · unfold Dk.write
    repeat' split
    all_goals simp
set_option maxRecDepth 100000 in
set_option maxHeartbeats 1600000 in
theorem step_any {w : World} {X : Nat → Prop} {p q : Nat} {d : Dk.D} (h : Two w X p q d d) (x : DAct) (fa : Option Addr) (fc : Nat) (hl : -9223372036854775808 ≤ x.i) (hh : x.i ≤ 9223372036854775807) (hr : ReadsI w fa x.F) (hfa : ∀ a, fa = some a → x.F ≠ [] → X a.block) (hW : d.W.length ≤ 1000000) :
    Calls Try.prog 10 #[.pointer (some ⟨p, 0, none⟩), .pointer (some ⟨q, 0, none⟩), .agg (actV x fa fc)] w fun e w' => e = .returned (.bool true) ∧ Two w' X p q (stepD d x) (stepD d x) ∧ Only (fun k => ¬ X k) w w' := by
  have hw1 : Below w.heap.size w (w.alloc (.cells (actV x fa fc) 34)) := (Below.refl _ w).alloc (Nat.le_refl _) _
  have hlt : w.heap.size < (w.alloc (.cells (actV x fa fc) 34)).heap.size := by simp
  have h1 := two_more h hw1 hlt
  have ho1 : Only (fun k => ¬ X k) w (w.alloc (.cells (actV x fa fc) 34)) := (Only.refl _ w).alloc _
  have hr1 : ReadsI (w.alloc (.cells (actV x fa fc) 34)) fa x.F := readsI_only hr ho1 fun a ha hne hn => hn (hfa a ha hne)
  have hrow : RowV (w.alloc (.cells (actV x fa fc) 34)) w.heap.size 34 (actV x fa fc).toList := rowV_new w _ [_, _, _, _, _]
  have hX2 : ∀ (wa wb : World), Only (fun k => ¬ (X k ∨ k = w.heap.size)) wa wb → Only (fun k => ¬ X k) wa wb := fun _ _ h => h.mono fun k _ hn hx => hn (.inl hx)
  have hX1 : ∀ (wa wb : World) (i : Nat), Only (fun k => ¬ (X k ∨ k = w.heap.size)) wa wb → w.heap.size < wa.heap.size → wb.cell? ⟨w.heap.size, i, none⟩ = wa.cell? ⟨w.heap.size, i, none⟩ := fun wa wb i ho hlt => ho.cell (p := ⟨w.heap.size, i, none⟩) hlt (fun hn => hn (.inr rfl))
  have b0 : (w.alloc (.cells (actV x fa fc) 34)).cell? ⟨w.heap.size, 0, none⟩ = some (.int .i64 x.kind) := rowV_cell hrow 0
  have b1 : (w.alloc (.cells (actV x fa fc) 34)).cell? ⟨w.heap.size, 1, none⟩ = some (.int .i64 x.i) := rowV_cell hrow 1
  have b2 : (w.alloc (.cells (actV x fa fc) 34)).cell? ⟨w.heap.size, 2, none⟩ = some (.int .u8 (x.a.toNat : Int)) := rowV_cell hrow 2
  have b3 : (w.alloc (.cells (actV x fa fc) 34)).cell? ⟨w.heap.size, 3, none⟩ = some (.int .u8 (x.b.toNat : Int)) := rowV_cell hrow 3
  have b4 : (w.alloc (.cells (actV x fa fc) 34)).cell? ⟨w.heap.size, 4, none⟩ = some (.slice fa x.F.length fc) := rowV_cell hrow 4
  have hfa1 : ∀ a, fa = some a → x.F ≠ [] → (X a.block ∨ a.block = w.heap.size) := fun a ha hne => .inl (hfa a ha hne)
  have HH := Lib.hid (And.intro h1 (And.intro hlt (And.intro ho1 (And.intro hr1 (And.intro hX1 (And.intro hX2 (And.intro hW (And.intro hl (And.intro hh hfa1)))))))))
  clear h hl hh hr hfa hW hw1 h1 hlt ho1 hr1 hrow hX1 hX2 hfa1
  by_cases t2 : x.kind = 2
  · have e1 : stepD d x = Dk.flush d := by unfold stepD; rw [t2]; rfl
    rw [e1]
    have q0 : (x.kind == 0) = false := by rw [t2]; rfl
    have q1 : (x.kind == 1) = false := by rw [t2]; rfl
    have q2 : (x.kind == 2) = true := by rw [t2]; rfl
    clear t2 e1
    go_enter Try.func10, Try.ntmps10
    go_wp2_with fail
    generalize hwa : World.alloc _ _ = w1 at *
    generalize hN : w.heap.size = N at *
    refine (two_flush HH.out.1).mono ?_
    rintro e w2 ⟨rfl, h2, ho2⟩
    have H2 := Lib.hid (And.intro h2 ho2)
    clear h2 ho2
    go_wp2_with fail
    refine (two_rflush H2.out.1).mono ?_
    rintro e w3 ⟨rfl, h3, ho3⟩
    have H3 := Lib.hid (And.intro h3 ho3)
    clear h3 ho3
    go_wp2_with fail
    go_ret
    exact ⟨rfl, two_less H3.out.1 fun _ h => .inl h, (HH.out.2.2.1.more (HH.out.2.2.2.2.2.1 _ _ H2.out.2)).more (HH.out.2.2.2.2.2.1 _ _ H3.out.2)⟩
  · have q2 : (x.kind == 2) = false := by rw [beq_eq_false_iff_ne]; exact t2
    by_cases t4 : x.kind = 4
    · have e1 : stepD d x = Dk.crash d x.F := by unfold stepD; rw [t4]; rfl
      rw [e1]
      have q0 : (x.kind == 0) = false := by rw [t4]; rfl
      have q1 : (x.kind == 1) = false := by rw [t4]; rfl
      have q3 : (x.kind == 3) = false := by rw [t4]; rfl
      have q4 : (x.kind == 4) = true := by rw [t4]; rfl
      clear t2 t4 e1
      go_enter Try.func10, Try.ntmps10
      go_wp2_with fail
      generalize hwa : World.alloc _ _ = w1 at *
      generalize hN : w.heap.size = N at *
      refine (two_rcrash HH.out.1 fa x.F fc HH.out.2.2.2.1 HH.out.2.2.2.2.2.2.2.2.2).mono ?_
      rintro e w2 ⟨rfl, h2, ho2⟩
      have c4 := (HH.out.2.2.2.2.1 _ _ 4 ho2 HH.out.2.1).trans b4
      have hr2 : ReadsI w2 fa x.F := readsI_only HH.out.2.2.2.1 ho2 fun a ha hne hn => hn (HH.out.2.2.2.2.2.2.2.2.2 a ha hne)
      have H2 := Lib.hid (And.intro h2 (And.intro ho2 hr2))
      clear h2 ho2 hr2
      go_wp2_with fail
      refine (two_crash H2.out.1 fa x.F fc H2.out.2.2 HH.out.2.2.2.2.2.2.2.2.2).mono ?_
      rintro e w3 ⟨rfl, h3, ho3⟩
      have H3 := Lib.hid (And.intro h3 ho3)
      clear h3 ho3
      go_wp2_with fail
      go_ret
      exact ⟨rfl, two_less H3.out.1 fun _ h => .inl h, (HH.out.2.2.1.more (HH.out.2.2.2.2.2.1 _ _ H2.out.2.1)).more (HH.out.2.2.2.2.2.1 _ _ H3.out.2)⟩
    · have q4 : (x.kind == 4) = false := by rw [beq_eq_false_iff_ne]; exact t4
      by_cases t1 : x.kind = 1
      · have e1 : stepD d x = d := by unfold stepD; rw [t1]; rfl
        rw [e1]
        have q0 : (x.kind == 0) = false := by rw [t1]; rfl
        have q1 : (x.kind == 1) = true := by rw [t1]; rfl
        clear t2 t4 t1 e1
        have u1 : ((Dk.readS d x.i).toList == (Dk.readS d x.i).toList) = true := beq_self_eq_true _
        go_enter Try.func10, Try.ntmps10
        go_wp2_with fail
        generalize hwa : World.alloc _ _ = w1 at *
        generalize hN : w.heap.size = N at *
        refine (two_read HH.out.1 x.i).mono ?_
        rintro e w2 ⟨rfl, hw2⟩
        obtain rfl := hw2.symm; clear hw2
        go_wp2_with fail
        refine (two_rread HH.out.1 x.i).mono ?_
        rintro e w2 ⟨rfl, hw2⟩
        obtain rfl := hw2.symm; clear hw2
        go_wp2_with fail
        go_ret
        exact ⟨rfl, two_less HH.out.1 fun _ h => .inl h, HH.out.2.2.1⟩
      · have q1 : (x.kind == 1) = false := by rw [beq_eq_false_iff_ne]; exact t1
        by_cases t3 : x.kind = 3
        · have e1 : stepD d x = Dk.arm d x.i := by unfold stepD; rw [t3]; rfl
          rw [e1]
          have q0 : (x.kind == 0) = false := by rw [t3]; rfl
          have q3 : (x.kind == 3) = true := by rw [t3]; rfl
          clear t2 t4 t1 t3 e1
          go_enter Try.func10, Try.ntmps10
          go_wp2_with fail
          generalize hwa : World.alloc _ _ = w1 at *
          generalize hN : w.heap.size = N at *
          go_region_held3 (fun w' => w'.cell? ⟨N, 1, none⟩ = some (.int .i64 x.i))
            (first | exact b1 | exact (HH.out.2.2.2.2.1 _ _ 1 ho3 HH.out.2.1).trans b1 | exact (HH.out.2.2.2.2.1 _ _ 1 ho4 (Nat.lt_of_lt_of_le HH.out.2.1 ho3.size)).trans ((HH.out.2.2.2.2.1 _ _ 1 ho3 HH.out.2.1).trans b1))
            (first
              | (go_at_call 21; refine (two_arm (two_below HH.out.1 (Below.refl _ _).drew) x.i HH.out.2.2.2.2.2.2.2.1 HH.out.2.2.2.2.2.2.2.2.1).mono ?_; rintro e w3 ⟨rfl, h3, ho3⟩)
              | (go_at_call 25; refine (two_rarm h3 x.i HH.out.2.2.2.2.2.2.2.1 HH.out.2.2.2.2.2.2.2.2.1).mono ?_; rintro e w4 ⟨rfl, h4, ho4⟩))
          have H4 := Lib.hid (And.intro h4 (And.intro ho3 ho4))
          clear h3 ho3 h4 ho4
          go_wp2_with fail
          go_ret
          exact ⟨rfl, two_less H4.out.1 fun _ h => .inl h, (HH.out.2.2.1.drew.more (HH.out.2.2.2.2.2.1 _ _ H4.out.2.1)).more (HH.out.2.2.2.2.2.1 _ _ H4.out.2.2)⟩
        · have q3 : (x.kind == 3) = false := by rw [beq_eq_false_iff_ne]; exact t3
          by_cases t0 : x.kind = 0
          · have e1 : stepD d x = Dk.write d x.i (blkB x.a x.b) := by unfold stepD; rw [if_pos t0]
            rw [e1]
            have q0 : (x.kind == 0) = true := by rw [t0]; rfl
            clear t2 t4 t1 t3 t0 e1
            go_enter Try.func10, Try.ntmps10
            go_wp2_with fail
            generalize hwa : World.alloc _ _ = w1 at *
            generalize hN : w.heap.size = N at *
            refine (block_any x.a x.b w1).mono ?_
            rintro e w2 ⟨rfl, hb2⟩
            have c1 := (hb2.cell (p := ⟨N, 1, none⟩) HH.out.2.1).trans b1
            have hlt2 : N < w2.heap.size := Nat.lt_of_lt_of_le HH.out.2.1 hb2.size
            have H2 := Lib.hid (And.intro hlt2 (And.intro (two_below HH.out.1 hb2) (Only.of_none (F := fun k => ¬ X k) hb2)))
            clear hb2 hlt2
            go_wp2_with fail
            go_region_held3 (fun w' => w'.cell? ⟨N, 1, none⟩ = some (.int .i64 x.i))
              (first | exact c1 | exact (HH.out.2.2.2.2.1 _ _ 1 ho3 H2.out.1).trans c1 | exact (HH.out.2.2.2.2.1 _ _ 1 ho4 (Nat.lt_of_lt_of_le H2.out.1 ho3.size)).trans ((HH.out.2.2.2.2.1 _ _ 1 ho3 H2.out.1).trans c1))
              (first
                | (go_at_call 13; refine (two_write (two_below H2.out.2.1 (Below.refl _ _).drew) x.i (blkB x.a x.b) HH.out.2.2.2.2.2.2.1).mono ?_; rintro e w3 ⟨rfl, h3, ho3⟩)
                | (go_at_call 22; refine (two_rwrite h3 x.i (blkB x.a x.b) HH.out.2.2.2.2.2.2.1).mono ?_; rintro e w4 ⟨rfl, h4, ho4⟩))
            have H4 := Lib.hid (And.intro h4 (And.intro ho3 ho4))
            clear h3 ho3 h4 ho4
            go_wp2_with fail
            go_ret
            exact ⟨rfl, two_less H4.out.1 fun _ h => .inl h, ((HH.out.2.2.1.more H2.out.2.2).drew.more (HH.out.2.2.2.2.2.1 _ _ H4.out.2.1)).more (HH.out.2.2.2.2.2.1 _ _ H4.out.2.2)⟩
          · have q0 : (x.kind == 0) = false := by rw [beq_eq_false_iff_ne]; exact t0
            have e1 : stepD d x = Dk.write d x.i (shortB x.i) := by unfold stepD; rw [if_neg t0, if_neg t1, if_neg t2, if_neg t3, if_neg t4]
            rw [e1]
            clear t2 t4 t1 t3 t0 e1
            go_enter Try.func10, Try.ntmps10
            go_wp2_with fail
            generalize hwa : World.alloc _ _ = w1 at *
            generalize hN : w.heap.size = N at *
            have hs1 := Lib.hid (fun (wx : World) => short_any x.i wx)
            go_region_held3 (fun w' => w'.cell? ⟨N, 1, none⟩ = some (.int .i64 x.i) ∧ N < w'.heap.size)
              (first | exact ⟨b1, HH.out.2.1⟩ | exact ⟨d1, l1⟩ | exact ⟨d2, l2⟩ | exact ⟨d3, l3⟩ | exact ⟨d4, l4⟩)
              (first
                | (go_at_call 27; refine (short_any x.i _).mono ?_; rintro e w3 ⟨rfl, hb3⟩; have d1 := (hb3.cell (p := ⟨N, 1, none⟩) HH.out.2.1).trans b1; have l1 := Nat.lt_of_lt_of_le HH.out.2.1 hb3.size; have k1 := two_below (two_below HH.out.1 (Below.refl _ _).drew) hb3)
                | (go_at_call 13; refine (two_write k1 x.i (shortB x.i) HH.out.2.2.2.2.2.2.1).mono ?_; rintro e w4 ⟨rfl, h4, ho4⟩; have d2 := (HH.out.2.2.2.2.1 _ _ 1 ho4 l1).trans d1; have l2 := Nat.lt_of_lt_of_le l1 ho4.size)
                | (go_at_call 27; refine (short_any x.i _).mono ?_; rintro e w5 ⟨rfl, hb5⟩; have d3 := (hb5.cell (p := ⟨N, 1, none⟩) l2).trans d2; have l3 := Nat.lt_of_lt_of_le l2 hb5.size; have k3 := two_below h4 hb5)
                | (go_at_call 22; refine (two_rwrite k3 x.i (shortB x.i) HH.out.2.2.2.2.2.2.1).mono ?_; rintro e w6 ⟨rfl, h6, ho6⟩; have d4 := (HH.out.2.2.2.2.1 _ _ 1 ho6 l3).trans d3; have l4 := Nat.lt_of_lt_of_le l3 ho6.size))
            have H6 := Lib.hid (And.intro h6 (And.intro (Only.of_none (F := fun k => ¬ X k) hb3) (And.intro ho4 (And.intro (Only.of_none (F := fun k => ¬ X k) hb5) ho6))))
            clear hb3 d1 l1 k1 h4 ho4 d2 l2 hb5 d3 l3 k3 h6 ho6 d4 l4
            go_wp2_with fail
            go_ret
            exact ⟨rfl, two_less H6.out.1 fun _ h => .inl h, (((HH.out.2.2.1.drew.more H6.out.2.1).more (HH.out.2.2.2.2.2.1 _ _ H6.out.2.2.1)).more H6.out.2.2.2.1).more (HH.out.2.2.2.2.2.1 _ _ H6.out.2.2.2.2)⟩
end Go.Proofs.Ytjefmmbkkdaeiaa
