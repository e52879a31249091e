/-
  Layer 4: what the document's Write, Read and Flush do.
-/
import Derived.Test.YtjefmmbkkdaeiaaRefObj
import Derived.Test.YtjefmmbkkdaeiaaQTail
import Derived.Test.YtjefmmbkkdaeiaaDskOps
import Derived.OwnWalk
import Derived.BigRegion
namespace Go.Proofs.Ytjefmmbkkdaeiaa
open Go.RowKit

theorem info_loose : (Try.prog.info? 75).map (fun i => (i.zero, i.size, i.bytes)) = some (some (.agg #[.int .i64 0, .string ByteArray.empty]), 2, 24) := by kernel_rfl
theorem info_str : (Try.prog.info? 9).map (fun i => (i.zero, i.size, i.bytes)) = some (some (.string ByteArray.empty), 1, 16) := by kernel_rfl
theorem wpList_run_append2 {P : Program} {ops : Array Oper} {rest : List Oper} {o : Oper} {a : Act} {w : World} {Q : Exit → Act → World → Prop} (hgd : o.guard = none) (s x : Operand) (t : TypeId)
    (ho : o.op = .call { callee := .builtin .append, args := #[s, x], argTypes := #[t, t] }) (v1 v2 : Value) (hs : a.eval s = v1) (hx : a.eval x = v2) (v' : Value) (w' : World) (hr : (Builtin.append_ #[t, t] o.type #[v1, v2]).run P w = .ok v' w')
    (h : wpList P ops Q rest (a.put o.dst v') w') : wpList P ops Q (o :: rest) a w := by
  refine wpList_plain hgd fun K hK => ?_
  unfold Oper.wp execOp
  simp only [ho, resolve, invoke, builtin, Sem.run_bind, Sem.run_pure, Result.andThen_ok, List.map_toArray, List.map_cons, List.map_nil, hs, hx, hr]
  exact hK _ _ h
/-- behind goes -/
theorem refIn_spent {w w' : World} {S : Nat → Prop} {q cb cw : Nat} {lb lw : Option Addr} {d : Dk.D} (h : RefIn w S q cb cw lb lw d) (hh : RHead w' q cb cw lb lw (Dk.spent d)) (ho : Only (fun k => k = q) w w') : RefIn w' S q cb cw lb lw (Dk.spent d) := by
  refine ⟨Dk.spent_ok h.ok, hh, ?_, ?_, h.sq⟩
  · rw [spent_B]
    refine listAt_only h.blocks ho fun a ha => ?_
    obtain ⟨g, rfl, _, _, h3⟩ := listAt_block h.blocks a ha
    exact h3
  · rw [spent_W]
    refine listAt_only h.loose ho fun a ha => ?_
    obtain ⟨g, rfl, _, _, h3⟩ := listAt_block h.loose a ha
    exact fun e => h3 (.inl e)

set_option maxRecDepth 100000 in
set_option maxHeartbeats 1600000 in
theorem rwrite_any {w : World} {S : Nat → Prop} {q cb cw : Nat} {lb lw : Option Addr} {d : Dk.D} (h : RefIn w S q cb cw lb lw d) (hS : ∀ k, w.heap.size ≤ k → S k) (i : Int) (s : ByteArray) (hW : d.W.length ≤ 1000000) :
    Calls Try.prog 22 #[.pointer (some ⟨q, 0, none⟩), .int .i64 i, .string s] w fun e w' => e = .returned (.int .i64 (Dk.writeE d i s)) ∧ RefAt w' S q (Dk.write d i s) ∧ Only S w w' := by
  have c4 := rhead_gone h.head
  have ct := there_any h.head i
  cases hg : d.gone with
  | true =>
    have e1 : Dk.write d i s = d := by unfold Dk.write; rw [if_pos hg]
    have e2 : Dk.writeE d i s = 7 := by unfold Dk.writeE; rw [if_pos hg]
    rw [hg] at c4
    rw [e1, e2]
    have HH := Lib.hid h; clear ct h e1 e2 hg hW hS
    go_enter Try.func22, Try.ntmps22
    go_wp2_with fail
    go_ret
    exact ⟨rfl, ⟨_, _, _, _, HH.out⟩, Only.refl _ _⟩
  | false =>
    rw [hg] at c4
    have hgf : ¬ d.gone = true := by rw [hg]; simp
    by_cases hi : 0 ≤ i ∧ i < d.B.length
    · rw [decide_eq_true hi] at ct
      by_cases hs : s.size = 512
      · have hno : ¬ (¬ (0 ≤ i ∧ i < d.B.length) ∨ s.size ≠ 512) := fun hn => by rcases hn with hn | hn; exact hn hi; exact hn hs
        have ts : ((s.size : Int) != 512) = false := by rw [hs]; rfl
        have cg := goes_any h.head h.ok
        by_cases h0 : d.fuse = 0
        · have e1 : Dk.write d i s = Dk.spent d := by unfold Dk.write Dk.spent; rw [if_neg hgf, if_neg hno, if_pos h0, if_pos h0]
          have e2 : Dk.writeE d i s = 7 := by unfold Dk.writeE; rw [if_neg hgf, if_neg hno, if_pos h0]
          rw [e1, e2]
          rw [decide_eq_true h0] at cg
          have HH := Lib.hid (And.intro ct (And.intro cg h)); clear ct cg h e1 e2 hg hgf hno h0 hi hW hs hS
          go_enter Try.func22, Try.ntmps22
          go_wp2_with fail
          refine HH.out.1.mono ?_
          rintro e w0 ⟨rfl, hw0⟩
          obtain rfl := hw0.symm
          clear hw0
          go_wp2_with fail
          refine HH.out.2.1.mono ?_
          rintro e w1 ⟨rfl, hh1, ho1⟩
          have H1 := Lib.hid (And.intro hh1 ho1); clear hh1 ho1
          go_wp2_with fail
          go_ret
          exact ⟨rfl, ⟨_, _, _, _, refIn_spent HH.out.2.2 H1.out.1 H1.out.2⟩, H1.out.2.mono fun k _ e => e ▸ HH.out.2.2.sq⟩
        · obtain ⟨j, rfl⟩ : ∃ j : Nat, i = (j : Int) := ⟨i.toNat, by omega⟩
          have hj : j < d.B.length := by omega
          have e1 : Dk.write d j s = ⟨d.B, d.W ++ [(j, s)], Dk.burn d.fuse, d.gone⟩ := by unfold Dk.write; rw [if_neg hgf, if_neg hno, if_neg h0]; rfl
          have e2 : Dk.writeE d j s = 0 := by unfold Dk.writeE; rw [if_neg hgf, if_neg hno, if_neg h0]
          have e4 : Dk.spent d = ⟨d.B, d.W, Dk.burn d.fuse, d.gone⟩ := by unfold Dk.spent; rw [if_neg h0]
          have hok := Dk.write_ok h.ok j s
          rw [e1] at hok
          rw [e1, e2]
          rw [decide_eq_false h0] at cg
          have HH := Lib.hid (And.intro ct (And.intro cg (And.intro h (And.intro e4 (And.intro hok (And.intro hW hS)))))); clear ct cg h e1 e2 e4 hg hgf hno h0 hi hok hj hW hs hS
          go_enter Try.func22, Try.ntmps22
          go_wp2_with fail
          refine HH.out.1.mono ?_
          rintro e w0 ⟨rfl, hw0⟩
          obtain rfl := hw0.symm
          clear hw0
          go_wp2_with fail
          refine HH.out.2.1.mono ?_
          rintro e w1 ⟨rfl, hh1, ho1⟩
          have hin := refIn_spent HH.out.2.2.1 hh1 ho1
          rw [HH.out.2.2.2.1] at hin
          have c1 := rhead_W hin.head
          obtain ⟨il, hil, hil2⟩ := Option.map_eq_some_iff.1 info_loose
          simp only [Prod.mk.injEq] at hil2
          have hoa : ∀ F : Nat → Prop, Only F w1 (w1.alloc (.cells #[.int .i64 (j : Int), .string s] 75)) := fun F => (Only.refl F w1).alloc _
          have hlt : ∀ x, (x = q ∨ ∃ a, lb = some a ∧ a.block = x) → x < w1.heap.size := by
            rintro x (rfl | ⟨a, ha, rfl⟩)
            · exact rowV_lt hin.head
            · obtain ⟨g, rfl, h1, _⟩ := listAt_block hin.blocks a ha; exact h1
          have hap := append_list (P := Try.prog) (w := w1.alloc (.cells #[.int .i64 (j : Int), .string s] 75)) (W := d.W) 37 37 il _ 24 Try.underlying37 hil hil2.1 hil2.2.1 hil2.2.2 rfl (by omega)
            (listAt_only hin.loose (hoa fun _ => False) (fun _ _ h => h)) (fun _ _ => rfl) (j, s) rfl (lwv_one _) w1.heap.size (rowV_new w1 _ _) (by have := HH.out.2.2.2.2.2.1; omega) (by have := HH.out.2.2.2.2.2.1; omega) (by have := HH.out.2.2.2.2.2.1; unfold maxLen; omega) (fun x hx => by have := hlt x hx; simp; omega)
          obtain ⟨la', cap', w5, hrun, hL5, ho5⟩ := hap
          have ho15 := (hoa (fun j => S j ∧ ¬ (j = q ∨ ∃ a, lb = some a ∧ a.block = j))).more ho5
          have hh5 : RHead w5 q cb cw lb lw ⟨d.B, d.W, Dk.burn d.fuse, d.gone⟩ := rowV_only hin.head ho15 (fun h => h.2 (.inl rfl))
          have hb5 := listAt_only hin.blocks ho15 (fun a ha h => h.2 (.inr ⟨a, ha, rfl⟩))
          have f15 := rowV_frozen hh5 1
          have c15 := rhead_W hh5
          have hst := rowV_stored hh5 1 (.slice la' (d.W.length + 1) cap')
          have hz1 : w.heap.size ≤ w1.heap.size := ho1.size
          have H5 := Lib.hid (And.intro hst (And.intro hb5 (And.intro hL5 (And.intro ho15 (And.intro ho1 hin.sq)))))
          have HR := Lib.hid hrun
          clear hst hb5 hL5 ho15 ho1 hh1 ho5 hh5 hrun hin hoa hlt hil hil2
          go_wp2_with (at_builtin; go_loud (refine wpList_run_append2 rfl (.tmp 29) (.tmp 33) 37 rfl _ _ rfl rfl _ _ HR.out ?_))
          go_ret
          obtain ⟨hst, hb5, hL5, ho15, ho1, hsq⟩ := H5.out
          have hp5 : Only (fun k => k = q) w5 (w5.setCell ⟨q, 1, none⟩ (.slice la' (d.W.length + 1) cap')) := (Only.refl (fun k => k = q) w5).setCell (g := q) (i := 1) (fun _ => rfl) _
          refine ⟨rfl, ⟨cb, cap', lb, la', ⟨HH.out.2.2.2.2.1, ?_, ?_, ?_, hsq⟩⟩, ((ho1.mono (G := S) fun k _ e => e ▸ hsq).trans (ho15.mono (G := S) fun k _ h => h.1) fun _ _ h => h).trans (hp5.mono (G := S) fun k _ e => e ▸ hsq) fun _ _ h => h⟩
          · have e : (d.W ++ [(j, s)]).length = d.W.length + 1 := by simp
            unfold RHead
            rw [e]
            exact hst
          · refine listAt_only hb5 hp5 fun a ha => ?_
            obtain ⟨g, rfl, _, _, h3⟩ := listAt_block hb5 a ha
            exact h3
          · have hm := listAt_mono (S' := S) (Av' := fun x => x = q ∨ ∃ a, lb = some a ∧ a.block = x) hL5 (fun k _ h => h.elim id fun h => HH.out.2.2.2.2.2.2 k (by simp at h; omega)) (fun _ _ h => h)
            refine listAt_only hm hp5 fun a ha => ?_
            obtain ⟨g, rfl, _, _, h3⟩ := listAt_block hm a ha
            exact fun e => h3 (.inl e)
      · have e1 : Dk.write d i s = d := by unfold Dk.write; rw [if_neg hgf, if_pos (.inr hs)]
        have e2 : Dk.writeE d i s = 2 := by unfold Dk.writeE; rw [if_neg hgf, if_pos (.inr hs)]
        have ts : ((s.size : Int) != 512) = true := by rw [bne_iff_ne]; omega
        rw [e1, e2]
        have HH := Lib.hid (And.intro ct h); clear ct h e1 e2 hg hgf hW hs hi hS
        go_enter Try.func22, Try.ntmps22
        go_wp2_with fail
        refine HH.out.1.mono ?_
        rintro e w0 ⟨rfl, hw0⟩
        obtain rfl := hw0.symm
        clear hw0
        go_wp2_with fail
        go_ret
        exact ⟨rfl, ⟨_, _, _, _, HH.out.2⟩, Only.refl _ _⟩
    · have e1 : Dk.write d i s = d := by unfold Dk.write; rw [if_neg hgf, if_pos (.inl hi)]
      have e2 : Dk.writeE d i s = 2 := by unfold Dk.writeE; rw [if_neg hgf, if_pos (.inl hi)]
      rw [decide_eq_false hi] at ct
      rw [e1, e2]
      have HH := Lib.hid (And.intro ct h); clear ct h e1 e2 hg hgf hW hi hS
      go_enter Try.func22, Try.ntmps22
      go_wp2_with fail
      refine HH.out.1.mono ?_
      rintro e w0 ⟨rfl, hw0⟩
      obtain rfl := hw0.symm
      clear hw0
      go_wp2_with fail
      go_ret
      exact ⟨rfl, ⟨_, _, _, _, HH.out.2⟩, Only.refl _ _⟩
end Go.Proofs.Ytjefmmbkkdaeiaa
