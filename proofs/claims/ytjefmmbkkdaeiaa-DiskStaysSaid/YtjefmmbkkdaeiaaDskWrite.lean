/-
  Layer 4: what Write does.
-/
import Derived.Test.YtjefmmbkkdaeiaaDskBuild
import Derived.Test.YtjefmmbkkdaeiaaHTail
namespace Go.Proofs.Ytjefmmbkkdaeiaa
open Go.RowKit

theorem wp_slice_write {o : Oper} {a : Act} {w : World} {K : Act → World → Prop} {Q : Exit → Act → World → Prop} (x : Operand) (ho : o.op = .buildSlice 53 1 #[(0, x)]) (X : Array Value) (hx : a.eval x = .agg X) (hX : X.size = 513)
    (h : K (a.put o.dst (.slice (some ⟨w.heap.size, 0, none⟩) 1 1)) (w.alloc (.cells X 69))) : Oper.wp Try.prog o a w K Q := by
  unfold Oper.wp execOp
  have e : (#[(0, x)] : Array (Nat × Operand)).map (fun (i, x) => (i, a.eval x)) = #[(0, .agg X)] := by rw [← hx]; simp
  simp only [ho, e, Sem.run_bind, run_slice_write w X hX, Result.andThen_ok]
  exact h
theorem wp_run_append {P : Program} {o : Oper} {a : Act} {w : World} {K : Act → World → Prop} {Q : Exit → Act → World → Prop} (s x : Operand) (t : TypeId)
    (ho : o.op = .call { callee := .builtin .append, args := #[s, x], argTypes := #[t, t] }) (v1 v2 : Value) (hs : a.eval s = v1) (hx : a.eval x = v2) (v' : Value) (w' : World) (hr : (Builtin.append_ #[t, t] o.type #[v1, v2]).run P w = .ok v' w')
    (h : K (a.put o.dst v') w') : Oper.wp P o a w K Q := by
  unfold Oper.wp execOp
  simp only [ho, resolve, invoke, builtin, Sem.run_bind, Sem.run_pure, Result.andThen_ok, List.map_toArray, List.map_cons, List.map_nil, hs, hx, hr]
  exact h
theorem write_info (X : List Value) (h : X.length = 513) : X.toArray.size = 513 := by rw [List.size_toArray, h]

set_option maxRecDepth 100000 in
set_option maxHeartbeats 1600000 in
theorem write_any {w : World} {S : Nat → Prop} {p gn gk cn ck cap : Nat} {la : Option Addr} {d : Dk.D} (h : DiskIn w S p gn gk cn ck la cap d) (i : Int) (s : ByteArray) (hW : d.W.length ≤ 1000000) :
    Calls Try.prog 13 #[.pointer (some ⟨p, 0, none⟩), .int .i64 i, .string s] w fun e w' => e = .returned (.int .i64 (Dk.writeE d i s)) ∧ DiskNext w' (fun k => S k ∨ w.heap.size ≤ k) p (Dk.write d i s) la ∧ Only S w w' := by
  have ca := asked_any h.head h.ok
  have ch := has_any h.head i
  have hmono := diskIn_mono (S' := fun k => S k ∨ w.heap.size ≤ k) h fun k _ hk => .inl hk
  cases hg : d.gone with
  | true =>
    have e1 : Dk.write d i s = d := by unfold Dk.write; rw [if_pos hg]
    have e2 : Dk.writeE d i s = 7 := by unfold Dk.writeE; rw [if_pos hg]
    rw [hg] at ca
    rw [e1, e2]
    have HH := Lib.hid (And.intro ca hmono); clear ca ch h hmono e1 e2 hg hW
    go_enter Try.func13, Try.ntmps13
    go_wp2_with fail
    refine HH.out.1.mono ?_
    rintro e _ ⟨rfl, rfl⟩
    go_wp2_with fail
    go_ret
    exact ⟨rfl, ⟨_, _, _, _, _, _, HH.out.2, .inr (.inl rfl)⟩, Only.refl _ _⟩
  | false =>
    rw [hg] at ca
    have hgf : ¬ d.gone = true := by rw [hg]; simp
    by_cases hi : 0 ≤ i ∧ i < d.B.length
    · rw [decide_eq_true hi] at ch
      by_cases hs : s.size = 512
      · have hno : ¬ (¬ (0 ≤ i ∧ i < d.B.length) ∨ s.size ≠ 512) := fun hn => by rcases hn with hn | hn; exact hn hi; exact hn hs
        have ts : ((s.size : Int) != 512) = false := by rw [hs]; rfl
        have cs := spend_any h.head h.ok
        by_cases h0 : d.fuse = 0
        · have e1 : Dk.write d i s = Dk.spent d := by unfold Dk.write Dk.spent; rw [if_neg hgf, if_neg hno, if_pos h0, if_pos h0]
          have e2 : Dk.writeE d i s = 7 := by unfold Dk.writeE; rw [if_neg hgf, if_neg hno, if_pos h0]
          have e3 : Dk.spendE d = 7 := by unfold Dk.spendE; rw [if_pos h0]
          rw [e1, e2]
          rw [e3] at cs
          have HH := Lib.hid (And.intro ca (And.intro ch (And.intro cs (And.intro h hmono)))); clear ca ch cs h hmono e1 e2 e3 hg hgf hno h0 hi hW hs
          go_enter Try.func13, Try.ntmps13
          go_wp2_with fail
          refine HH.out.1.mono ?_
          rintro e _ ⟨rfl, rfl⟩
          go_wp2_with fail
          refine HH.out.2.1.mono ?_
          rintro e _ ⟨rfl, rfl⟩
          go_wp2_with fail
          refine HH.out.2.2.1.mono ?_
          rintro e w1 ⟨rfl, hh1, ho1⟩
          have H1 := Lib.hid (And.intro hh1 ho1); clear hh1 ho1
          go_wp2_with fail
          go_ret
          exact ⟨rfl, ⟨_, _, _, _, _, _, diskIn_spent HH.out.2.2.2.2 H1.out.1 H1.out.2, .inr (.inl rfl)⟩, H1.out.2.mono fun k _ e => e ▸ HH.out.2.2.2.1.sp⟩
        · obtain ⟨j, rfl⟩ : ∃ j : Nat, i = (j : Int) := ⟨i.toNat, by omega⟩
          have hj : j < d.B.length := by omega
          have e1 : Dk.write d j s = ⟨d.B, d.W ++ [(j, s)], Dk.burn d.fuse, d.gone⟩ := by unfold Dk.write; rw [if_neg hgf, if_neg hno, if_neg h0]; rfl
          have e2 : Dk.writeE d j s = 0 := by unfold Dk.writeE; rw [if_neg hgf, if_neg hno, if_neg h0]
          have e3 : Dk.spendE d = 0 := by unfold Dk.spendE; rw [if_neg h0]
          have e4 : Dk.spent d = ⟨d.B, d.W, Dk.burn d.fuse, d.gone⟩ := by unfold Dk.spent; rw [if_neg h0]
          have hok := Dk.write_ok h.ok j s
          rw [e1] at hok
          rw [e1, e2]
          rw [e3] at cs
          have j0 : (0 : Int) ≤ (j : Int) := by omega
          have jB : (j : Int) < (d.B.length : Int) := by omega
          have HH := Lib.hid (And.intro ca (And.intro ch (And.intro cs (And.intro h (And.intro e4 (And.intro hok (And.intro hj (And.intro hs hW)))))))); clear ca ch cs h hmono e1 e2 e3 e4 hg hgf hno h0 hi hok hj hW hs
          go_enter Try.func13, Try.ntmps13
          go_wp2_with fail
          refine HH.out.1.mono ?_
          rintro e w0 ⟨rfl, hw0⟩
          obtain rfl := hw0.symm
          clear hw0
          go_wp2_with fail
          refine HH.out.2.1.mono ?_
          rintro e w0 ⟨rfl, hw0⟩
          obtain rfl := hw0.symm
          clear hw0
          go_wp2_with fail
          refine HH.out.2.2.1.mono ?_
          rintro e w1 ⟨rfl, hh1, ho1⟩
          have hin := diskIn_spent HH.out.2.2.2.1 hh1 ho1
          rw [HH.out.2.2.2.2.1] at hin
          have c0 := head_now hin.head
          have hzo := Dk.over_ok hin.ok.size hin.ok.loose
          have hjo : j < (Dk.over d.B d.W).length := by rw [Dk.over_len]; exact HH.out.2.2.2.2.2.2.1
          have t1 := blocks_there hin.now hzo j hjo
          have hs5 := HH.out.2.2.2.2.2.2.2.1
          have H1 := Lib.hid (And.intro hin (And.intro ho1 (And.intro hzo hjo))); clear hh1 ho1 hin hzo hjo
          go_wp2_with (refine wpList_copy_text rfl (.tmp 34) (.tmp 35) 58 9 rfl 5 Try.underlying58 byte_one gn (j * 512) 512 512 rfl s rfl hs5 t1 ?_)
          have hin := H1.out.1
          have hjB : j < d.B.length := HH.out.2.2.2.2.2.2.1
          generalize hw2 : World.setCells _ _ _ _ = w2
          have HW2 : Hid (HeadAt w2 p gn gk cn ck la cap ⟨d.B, d.W, Dk.burn d.fuse, d.gone⟩ ∧ BlocksAt w2 gn cn ((Dk.over d.B d.W).set j s) ∧ BlocksAt w2 gk ck d.B ∧ LooseAt w2 S p gn gk la cap d.W ∧ Only S w w2) := Lib.hid (by
            rw [← hw2]
            refine ⟨rowV_cellsFar hin.head (fun e => hin.pn e.symm) _ _, blocks_set hin.now H1.out.2.2.1 j H1.out.2.2.2 s hs5, blocksAt_cells hin.kept hin.nk _ _, ?_, ?_⟩
            · exact looseAt_only hin.loose ((Only.refl (fun k => k = gn) w1).setCells (fun _ => rfl) _ _) (by
                rintro a rfl
                rcases hin.loose with ⟨h1, _⟩ | ⟨g, r, h1, _, _, _, _, h6, _⟩
                · cases h1
                · cases h1; exact h6)
            · exact (H1.out.2.1.mono (G := S) fun k _ e => e ▸ HH.out.2.2.2.1.sp).setCells (fun _ => hin.sn) _ _)
          clear hw2 hin t1 c0
          have c0 := head_now HW2.out.1
          have c2 := head_loose HW2.out.1
          have f2 := rowV_frozen HW2.out.1 2
          have hz2 : ∀ b ∈ (Dk.over d.B d.W).set j s, b.size = 512 := Dk.all_set H1.out.2.2.1 j s hs5
          have hj2 : j < ((Dk.over d.B d.W).set j s).length := by rw [List.length_set]; exact H1.out.2.2.2
          have r1 := blocks_range HW2.out.2.1 hz2 j hj2
          have eb : Dk.blk ((Dk.over d.B d.W).set j s) j = s := by rw [Dk.getD_set, if_pos ⟨rfl, H1.out.2.2.2⟩]
          rw [eb] at r1
          have hu := block_under
          have i1 := block_size s hs5
          have hbd := built_write j s hs5
          have HB := Lib.hid (And.intro hz2 (And.intro hj2 eb))
          clear hz2 hj2 eb
          go_wp2_with fail
          refine wp_region_held_tail (S := fun w' => w'.cell? ⟨p, 2, none⟩ = some (.slice la d.W.length cap) ∧ w'.cell? ⟨p, 0, none⟩ = some (.slice (some ⟨gn, 0, none⟩) d.B.length cn) ∧ w'.rangeAt gn (j * 512) (bv s)) 14 16 (by omega) (by kernel_rfl) (fun _ d _ _ _ h => by cases d <;> exact h) (by kernel_rfl) ⟨c2, c0, r1⟩ ?_
          simp only [List.take_succ_cons, List.take_zero, List.drop_succ_cons, List.drop_zero]
          iterate 12
            refine wpYield_step ?_
            apply Exists.intro
            refine ⟨⟨by rfl, fun wx hSx => ?_⟩, ?_⟩
            · go_simp
              with_reducible rfl
            simp only [Act.put, List.setIfInBounds_toArray, List.set_cons_zero, List.set_cons_succ]
          refine wpYield_load rfl _ _ rfl gn (j * 512) rfl (bv s).toArray (fun wx hSx => run_loadVar_mid wx gn (j * 512) _ (bv s) _ hSx.2.2 hu rfl i1) ?_
          simp only [Act.put, List.setIfInBounds_toArray, List.set_cons_zero, List.set_cons_succ]
          refine wpYield_build rfl _ _ rfl (wv (j, s)).toArray _ (by simp [Act.eval]) hbd ?_
          simp only [Act.put, List.setIfInBounds_toArray, List.set_cons_zero, List.set_cons_succ]
          have hap := append_loose (w := (w2.drew).alloc (.cells (wv (j, s)).toArray 69)) (looseAt_only HW2.out.2.2.2.1 (((Only.refl (fun _ => False) w2).drew).alloc _) (fun _ _ h => h)) (fun x hx => (HH.out.2.2.2.1.ok.loose x hx).2) (j, s) hs5 w2.drew.heap.size (rowV_new _ _ _) HH.out.2.2.2.2.2.2.2.2 53 (by have := rowV_lt HW2.out.1; simp; omega) (by obtain ⟨r, hr, _⟩ := HW2.out.2.1; have := rowV_lt hr; simp; omega) (by obtain ⟨r, hr, _⟩ := HW2.out.2.2.1; have := rowV_lt hr; simp; omega)
          obtain ⟨g', cap', r', w5, hrun, hg', hc1, hc2, n1, n2, n3, hS, hsz, ho⟩ := hap
          have ho5 : Only (fun k => S k ∧ k ≠ p ∧ k ≠ gn ∧ k ≠ gk) w2 w5 := ((Only.refl (fun k => S k ∧ k ≠ p ∧ k ≠ gn ∧ k ≠ gk) w2).drew.alloc _).more ho
          have hh5 : HeadAt w5 p gn gk cn ck la cap ⟨d.B, d.W, Dk.burn d.fuse, d.gone⟩ := rowV_only HW2.out.1 ho5 (fun h => h.2.1 rfl)
          have hn5 := blocksAt_only HW2.out.2.1 ho5 (fun h => h.2.2.1 rfl)
          have hk5 := blocksAt_only HW2.out.2.2.1 ho5 (fun h => h.2.2.2 rfl)
          have hr5 := blocks_range hn5 HB.out.1 j HB.out.2.1
          rw [HB.out.2.2] at hr5
          have hk0 : HeadAt ((w2.drew).alloc (.cells (wv (j, s)).toArray 69)) p gn gk cn ck la cap ⟨d.B, d.W, Dk.burn d.fuse, d.gone⟩ := rowV_only (F := fun _ => False) HW2.out.1 (((Only.refl (fun _ => False) w2).drew).alloc (.cells (wv (j, s)).toArray 69)) (fun h => h)
          have hS1 : ((w2.drew).alloc (.cells (wv (j, s)).toArray 69)).cell? ⟨p, 2, none⟩ = some (.slice la d.W.length cap) ∧ ((w2.drew).alloc (.cells (wv (j, s)).toArray 69)).cell? ⟨p, 0, none⟩ = some (.slice (some ⟨gn, 0, none⟩) d.B.length cn) ∧ ((w2.drew).alloc (.cells (wv (j, s)).toArray 69)).rangeAt gn (j * 512) (bv s) :=
            ⟨head_loose (d := ⟨d.B, d.W, Dk.burn d.fuse, d.gone⟩) hk0, head_now (d := ⟨d.B, d.W, Dk.burn d.fuse, d.gone⟩) hk0, World.rangeAt_alloc r1 _⟩
          refine wpKeep_step rfl rfl fun K hK => wp_slice_write _ rfl (wv (j, s)).toArray rfl (by rw [List.size_toArray, wv_len _ hs5]) (hK _ _ hS1 ?_)
          refine wpKeep_step rfl rfl fun K hK => wp_run_append (.tmp 41) (.tmp 51) 53 rfl _ _ rfl rfl _ _ hrun (hK _ _ ⟨head_loose (d := ⟨d.B, d.W, Dk.burn d.fuse, d.gone⟩) hh5, head_now (d := ⟨d.B, d.W, Dk.burn d.fuse, d.gone⟩) hh5, hr5⟩ ?_)
          show wpList _ _ _ _ _ w5
          simp only [Act.put, List.setIfInBounds_toArray]
          have f25 := rowV_frozen hh5 2
          have c25 := head_loose hh5
          have hst := rowV_stored hh5 2 (.slice (some ⟨g', 0, none⟩) (d.W.length + 1) cap')
          have H5 := Lib.hid (And.intro hst (And.intro hn5 (And.intro hk5 (And.intro hg' (And.intro hc1 (And.intro hc2 (And.intro n1 (And.intro n2 (And.intro n3 (And.intro hS (And.intro hsz ho5)))))))))))
          clear hst hn5 hk5 hg' hc1 hc2 n1 n2 n3 hS hsz ho5 hh5 hr5 hk0 hS1 hrun ho c0 c2 f2 r1 hu i1 hbd
          go_wp2_with fail
          go_ret
          obtain ⟨hst, hn5, hk5, hg', hc1, hc2, n1, n2, n3, hS, hsz, ho5⟩ := H5.out
          have hin := HH.out.2.2.2.1
          have hoW : Only S w w5 := HW2.out.2.2.2.2.trans (ho5.mono (G := S) fun k _ h => h.1) fun _ _ h => h
          have hp5 : Only (fun k => k = p) w5 (w5.setCell ⟨p, 2, none⟩ (.slice (some ⟨g', 0, none⟩) (d.W.length + 1) cap')) := (Only.refl (fun k => k = p) w5).setCell (g := p) (i := 2) (fun _ => rfl) _
          have hz5 : w.heap.size ≤ w2.heap.size := HW2.out.2.2.2.2.size
          have hSg : S g' ∨ w.heap.size ≤ g' := hS.elim .inl fun h => .inr (by have h2 : w2.heap.size ≤ g' := (by simp at h; omega); omega)
          refine ⟨rfl, ⟨gn, gk, cn, ck, some ⟨g', 0, none⟩, cap', ⟨HH.out.2.2.2.2.2.1, ?_, ?_, ?_, .inr ⟨g', r', rfl, ?_, ?_, hc2, n1, n2, n3, ?_⟩, hin.pn, hin.pk, hin.nk, .inl hin.sp, .inl hin.sn, .inl hin.sk⟩, .inr (.inr ⟨g', rfl, hSg⟩)⟩, hoW.trans (hp5.mono (G := S) fun k _ e => e ▸ hin.sp) fun _ _ h => h⟩
          · have e : (d.W ++ [(j, s)]).length = d.W.length + 1 := by simp
            unfold HeadAt
            rw [e]
            exact hst
          · show BlocksAt _ gn cn (Dk.over d.B (d.W ++ [(j, s)]))
            rw [Dk.over_snoc]
            exact blocksAt_only hn5 hp5 (fun e => hin.pn e)
          · exact blocksAt_only hk5 hp5 (fun e => hin.pk e)
          · exact rowV_only hg' hp5 (fun e => n1 e)
          · simpa using hc1
          · intro _
            refine ⟨hS.elim .inl fun h => .inr ?_, by simpa using hsz⟩
            have : w2.heap.size ≤ g' := by simp at h; omega
            omega
      · have e1 : Dk.write d i s = d := by unfold Dk.write; rw [if_neg hgf, if_pos (.inr hs)]
        have e2 : Dk.writeE d i s = 2 := by unfold Dk.writeE; rw [if_neg hgf, if_pos (.inr hs)]
        have ts : ((s.size : Int) != 512) = true := by rw [bne_iff_ne]; omega
        rw [e1, e2]
        have HH := Lib.hid (And.intro ca (And.intro ch hmono)); clear ca ch h hmono e1 e2 hg hgf hW hs hi
        go_enter Try.func13, Try.ntmps13
        go_wp2_with fail
        refine HH.out.1.mono ?_
        rintro e _ ⟨rfl, rfl⟩
        go_wp2_with fail
        refine HH.out.2.1.mono ?_
        rintro e _ ⟨rfl, rfl⟩
        go_wp2_with fail
        go_ret
        exact ⟨rfl, ⟨_, _, _, _, _, _, HH.out.2.2, .inr (.inl rfl)⟩, Only.refl _ _⟩
    · have e1 : Dk.write d i s = d := by unfold Dk.write; rw [if_neg hgf, if_pos (.inl hi)]
      have e2 : Dk.writeE d i s = 2 := by unfold Dk.writeE; rw [if_neg hgf, if_pos (.inl hi)]
      rw [decide_eq_false hi] at ch
      rw [e1, e2]
      have HH := Lib.hid (And.intro ca (And.intro ch hmono)); clear ca ch h hmono e1 e2 hg hgf hW hi
      go_enter Try.func13, Try.ntmps13
      go_wp2_with fail
      refine HH.out.1.mono ?_
      rintro e _ ⟨rfl, rfl⟩
      go_wp2_with fail
      refine HH.out.2.1.mono ?_
      rintro e _ ⟨rfl, rfl⟩
      go_wp2_with fail
      go_ret
      exact ⟨rfl, ⟨_, _, _, _, _, _, HH.out.2.2, .inr (.inl rfl)⟩, Only.refl _ _⟩
end Go.Proofs.Ytjefmmbkkdaeiaa
