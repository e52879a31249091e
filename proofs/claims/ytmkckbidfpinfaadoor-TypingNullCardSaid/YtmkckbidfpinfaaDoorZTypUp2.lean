/-
  Layer 15, the program's: the function that goes through an expression, each part behind its own parts, whole.
-/
import Derived.Test.YtmkckbidfpinfaaDoorZTypUp1
import Derived.Test.YtmkckbidfpinfaaDoorPk5
import Derived.Test.YtmkckbidfpinfaaDoorPk3
import Derived.BigQuiet
namespace Go.Proofs.YtmkckbidfpinfaaDoor
open Go.RowKit Go.Shelf
open Sx (X)
attribute [local go_sem] Oper.semAt_some
namespace Upw
set_option maxRecDepth 100000 in
theorem upward15_call (x : X) (a : Option Addr) (c : Nat) (w : World) : Calls Tryd.prog 35 #[xV x a c] w fun e w' => e = .returned (.func (.func 50) #[] #[.pointer (some ⟨w.heap.size, 0, none⟩)]) ∧ w' = w.alloc (.cells (xC x a c) 36) := by
  go_enter Tryd.func35, Tryd.ntmps35
  go_wp2_with fail
  go_ret
  exact ⟨rfl, rfl⟩
set_option maxRecDepth 100000 in
set_option maxHeartbeats 25600000 in
theorem up15_hands {n : Nat} (hn : 1 ≤ n) {w0 w : World} {m bx B2 : Nat} {Gd : X → Option Addr → Prop} {x : X} {a : Option Addr} {c : Nat} (hx : XAt w0 (fun j => j < m) x a) (hGx : Gd x a)
    (hG : ∀ y ay, Gd y ay → y.l.length ≤ maxLen ∧ ∀ (i : Nat) (h : i < y.l.length) b o az cz, ay = some ⟨b, o, none⟩ → Cells6 w0 b (o + i * 6) y.l[i] az cz → Gd y.l[i] az)
    (hd : Sx.deep x ≤ 1000) (hS : Side w0 w m bx x a c) :
    Hands2 (α := UA w0 m Gd) n Tryd.prog 50 #[.pointer (some ⟨bx, 0, none⟩)] encU (KpU m bx B2) (fun ys => ys.map (·.1.1) = Ty.up x) (fun pre => ∃ rest, pre.map (·.1.1) ++ rest = Ty.up x) (Ty.up x).length 92 w := by
  intro l J Jx W hbw _ hJs0 hJxs0 hY h0
  have hJs := fun s => (hJs0 s).surv (Nat.le_refl _)
  clear hJs0 hJxs0
  have hSW : Side w0 W m bx x a c := by
    have hl := rowV_lt hS.2.1
    refine ⟨fun j hj => (hbw.block j (Nat.lt_trans (Nat.lt_of_lt_of_le hj hS.2.2.1) hl)).trans (hS.1 j hj), (hbw.block bx hl).trans hS.2.1, hS.2.2⟩
  have hbxW := rowV_lt hSW.2.1
  have hmW : m ≤ W.heap.size := by have := hSW.2.2.1; omega
  refine callsIn_of_wp Tryd.func50 rfl trivial ?_
  simp only [Tryd.ntmps50, List.size_toArray, List.length_cons, List.length_nil, Nat.reduceAdd, Nat.reduceSub, Array.replicate_succ, Array.replicate_zero, List.push_toArray, List.append_toArray, List.nil_append, List.cons_append]
  have hnr : RowV (W.alloc (.cells #[.pointer (some ⟨bx, 0, none⟩), .int .i64 0] 92)) W.heap.size 92 (fS ⟨bx, 0, x, a, c, 0⟩) := rowV_new W 92 [_, _]
  have hnb : Below W.heap.size W (W.alloc (.cells #[.pointer (some ⟨bx, 0, none⟩), .int .i64 0] 92)) := (Below.refl W.heap.size W).alloc (Nat.le_refl _) _
  have I4 : ∃ P, P = [(⟨bx, 0, x, a, c, 0⟩ : St14)] ∧ PInv w0 m bx W.heap.size Gd x a c J [] P (.slice (some ⟨W.heap.size, 0, none⟩) 1 1) (W.alloc (.cells #[.pointer (some ⟨bx, 0, none⟩), .int .i64 0] 92)) := by
    refine ⟨_, rfl, ?_, surv_below (hJs _) h0 hnb, side_below hSW hnb, ⟨fun s hs => ?_, fun s hs => ?_, List.pairwise_singleton _ _, fun i hi => ?_⟩, owL_one (f := fS) hnr (Nat.le_refl _) rfl⟩
    · rw [Ty.up_eq]; simp [todo]
    · rw [List.mem_singleton] at hs; subst hs; exact .inr ⟨rfl, rfl, rfl, rfl, rfl⟩
    · rw [List.mem_singleton] at hs; subst hs; exact ⟨hx, hGx, Nat.zero_le _⟩
    · obtain rfl : i = 0 := by simpa using hi
      exact hd
  clear hnr hnb
  have H4 := Lib.hid I4
  clear I4
  gi_wp2
  gi_loopg [3, 4] (2 * (todo [(⟨bx, 0, x, a, c, 0⟩ : St14)]).length - 1) (fun k v3 v4 wr => ∃ (pre : List (UA w0 m Gd)) (P : List St14) (al : Option Addr) (cp : Nat), v3 = .slice al P.length cp ∧ k = 2 * (todo P).length - P.length ∧ Hid (PInv w0 m bx W.heap.size Gd x a c J pre P (.slice al P.length cp) wr))
  case atStart =>
    obtain ⟨_, rfl, I4⟩ := H4.out
    exact ⟨_, [⟨bx, 0, x, a, c, 0⟩], _, _, rfl, rfl, Lib.hid I4⟩
  case round =>
    obtain ⟨pre, P, al, cp, rfl, rfl, HI⟩ := hrel
    rcases List.eq_nil_or_concat P with rfl | ⟨P, t, rfl⟩
    · gi_wp2
      go_end0
      have hsay := HI.out.say
      rw [todo, List.append_nil] at hsay
      exact ⟨⟨_, rfl⟩, .inl ⟨pre, hsay, HI.out.j⟩⟩
    · have hlen : (P ++ [t]).length = P.length + 1 := by simp
      rw [List.concat_eq_append, hlen] at HI ⊢
      obtain ⟨g, rfl, -, hcp, hmax, hBg, hgs, hfew, z0, z1, fz1, z5⟩ := pinv_last HI.out
      have htd := (HI.out.way.sub t (by simp)).2.2
      have hw6 := way_cells HI.out.side HI.out.way t (by simp)
      have htl := todo_len P
      have hts : (todo (P ++ [t])).length = (Ty.upL (t.x.l.drop t.d)).length + 1 + (todo P).length := by rw [todo_snoc, List.length_append, List.length_append, List.length_singleton]
      generalize hN : P.length = N at *
      have eN : ((N + 1 : Nat) : Int) - 1 = (N : Int) := by omega
      have t0 : decide (((N + 1 : Nat) : Int) > 0) = true := decide_eq_true (by omega)
      by_cases hdl : t.d = t.x.l.length
      · have t1 : decide (((t.d : Nat) : Int) < ((t.x.l.length : Nat) : Int)) = false := decide_eq_false (by omega)
        obtain ⟨hsay, hSd, hWy, hOw⟩ := pinv_pop (pinv_below hJs HI.out (Below.refl _ _).drew) hN hdl
        have hxt := HI.out.way.sub t (by simp)
        have hpl : pre.length < (Ty.up x).length := by rw [← hsay]; simp
        obtain ⟨fn, tmps, assign, body, hy, hR⟩ := hY pre ⟨(t.x, t.a, t.c), hxt.1, hxt.2.1⟩ wr.drew (surv_below (hJs _) HI.out.j (Below.refl _ _).drew) hpl ⟨todo P, by rw [List.map_append, List.append_assoc]; exact hsay⟩
        dsimp only [encU, xV, xC] at hy
        have HP := Lib.hid (And.intro hsay (And.intro hSd (And.intro hWy hOw)))
        obtain ⟨q0, q1, q2, q3, q4, q5⟩ := hw6
        clear hsay hSd hWy hOw
        gi_wp2
        gi_region
        all_goals
          gi_wp2
          refine hR.mono ?_
          rintro e w5 (⟨rfl, hJ5, hk5⟩ | ⟨rfl, hJ5, -⟩)
          · gi_wp2
            gi_roundg (2 * (todo P).length - N)
            · refine ⟨pre ++ [⟨(t.x, t.a, t.c), hxt.1, hxt.2.1⟩], P, _, cp, by rw [hN], by rw [hN], ?_⟩
              rw [hN]
              exact Lib.hid ⟨by rw [List.map_append, List.append_assoc]; exact HP.out.1, hJ5, side_kpU HP.out.2.1 hk5, HP.out.2.2.1, owU_kp HP.out.2.2.2 hk5⟩
            · rw [List.concat_eq_append, hlen, hts]
              omega
          · gi_wp2
            refine bodyPost_ret (results_none rfl _ _ _) rfl ?_
            exact ⟨⟨_, rfl⟩, .inr ⟨_, ⟨todo P, by rw [List.map_append, List.append_assoc]; exact HP.out.1⟩, hJ5⟩⟩
      · have hlt : t.d < t.x.l.length := by omega
        have t1 : decide (((t.d : Nat) : Int) < ((t.x.l.length : Nat) : Int)) = true := decide_eq_true (by omega)
        have hI2 := pinv_below hJs HI.out (Below.refl wr.heap.size wr).drew
        obtain ⟨b, o, ay, cy, ha, hbm, hcy, hxy, -⟩ := way_next hI2.side hI2.way hlt
        have hGt := (HI.out.way.sub t (by simp)).2.1
        have hGl := (hG _ _ hGt).1
        have hGy := (hG _ _ hGt).2 t.d hlt b o ay cy ha hcy
        obtain ⟨wq, hwq, hJq, hSq, hWq, hOq, hoq⟩ := pinv_done hJs hI2 hmW hbxW hlt
        rw [hN] at hwq
        rw [ha] at z5
        have hsay := say_push (b := b) (o := o + t.d * 6) (ay := ay) (cy := cy) HI.out.say hlt
        have hwq2 : wq = (wr.setCell ⟨g, N * 2 + 1, none⟩ (.int .i64 ((t.d : Int) + 1))).drew := hwq
        have hi2 : N < (P ++ [{ t with d := t.d + 1 }]).length := by rw [List.length_append, hN]; exact Nat.lt_succ_self _
        have e2 : (P ++ [{ t with d := t.d + 1 }])[N] = { t with d := t.d + 1 } := by subst hN; simp
        have hc2 := owL_at1 (f := fS) (fun _ _ => rfl) hOq N hi2
        rw [e2] at hc2
        have p0 := (hc2 0 _ rfl).1
        have p1 := (hc2 1 _ rfl).1
        have p5 := (way_cells hSq hWq { t with d := t.d + 1 } (by simp)).2.2.2.2.2
        replace p0 : wq.cell? ⟨g, N * 2, none⟩ = some (.pointer (some ⟨t.b, t.o, none⟩)) := p0
        replace p1 : wq.cell? ⟨g, N * 2 + 1, none⟩ = some (.int .i64 ((t.d : Int) + 1)) := p1
        replace p5 : wq.cell? ⟨t.b, t.o + 5, none⟩ = some (.slice (some ⟨b, o, none⟩) t.x.l.length t.c) := by rw [← ha]; exact p5
        have hgo := owU_cells hOq g rfl
        have hWs := hOq
        have HQ := Lib.hid (And.intro hJq (And.intro hSq (And.intro hWq (And.intro hOq (And.intro hcy (And.intro hxy (And.intro hGy (And.intro hsay hgo))))))))
        have HC := Lib.hid (And.intro p0 (And.intro p1 p5))
        clear hJq hSq hWq hOq hoq hcy hwq hc2 e2 hi2 hI2 hGt hsay hWs p0 p1 p5 hgo
        unfold maxLen at hGl
        have hwd : IntKind.i64.wrap ((t.d : Nat) : Int) = ((t.d : Nat) : Int) := IntWalk.i64_in _ (by omega)
        have hcond : (0 : Int) ≤ ((t.d : Nat) : Int) ∧ ((t.d : Nat) : Int) < ((t.x.l.length : Nat) : Int) := ⟨by omega, by omega⟩
        have HCo := Lib.hid hcond
        clear hcond
        gi_wp2
        gi_region
        all_goals
          gi_wp2
          rw [← hwq2]
          clear hwq2
          have hgw := (owL_lt HQ.out.2.2.2.1 g rfl)
          have hlq : (P ++ [{ t with d := t.d + 1 }]).length = N + 1 := by rw [List.length_append, hN]; rfl
          have hdr : Below wq.heap.size wq ((wq.drew).alloc (.cells #[.pointer (some ⟨b, o + t.d * 6, none⟩), .int .i64 0] 92)) := (Below.refl wq.heap.size wq).drew.alloc (Nat.le_refl _) _
          have hnr : RowV ((wq.drew).alloc (.cells #[.pointer (some ⟨b, o + t.d * 6, none⟩), .int .i64 0] 92)) wq.heap.size 92 (fS ⟨b, o + t.d * 6, t.x.l[t.d], ay, cy, 0⟩) := rowV_new wq.drew 92 [_, _]
          have hS1 : ((wq.drew).alloc (.cells #[.pointer (some ⟨b, o + t.d * 6, none⟩), .int .i64 0] 92)).cell? ⟨g, N * 2, none⟩ = some (.pointer (some ⟨t.b, t.o, none⟩)) ∧ ((wq.drew).alloc (.cells #[.pointer (some ⟨b, o + t.d * 6, none⟩), .int .i64 0] 92)).cell? ⟨g, N * 2 + 1, none⟩ = some (.int .i64 ((t.d : Int) + 1)) ∧ ((wq.drew).alloc (.cells #[.pointer (some ⟨b, o + t.d * 6, none⟩), .int .i64 0] 92)).cell? ⟨t.b, t.o + 5, none⟩ = some (.slice (some ⟨b, o, none⟩) t.x.l.length t.c) :=
            ⟨(hdr.cell (World.block_lt_of_cell? _ _ HC.out.1)).trans HC.out.1, (hdr.cell (World.block_lt_of_cell? _ _ HC.out.2.1)).trans HC.out.2.1, (hdr.cell (World.block_lt_of_cell? _ _ HC.out.2.2)).trans HC.out.2.2⟩
          have H7 := Lib.hid (And.intro hdr (And.intro hnr (And.intro hS1 hlq)))
          clear hdr hnr hS1 hlq
          refine wpIn_wide.2 ?_
          refine wp_region_held_tail (S := fun wx => wx.cell? ⟨g, N * 2, none⟩ = some (.pointer (some ⟨t.b, t.o, none⟩)) ∧ wx.cell? ⟨g, N * 2 + 1, none⟩ = some (.int .i64 ((t.d : Int) + 1)) ∧ wx.cell? ⟨t.b, t.o + 5, none⟩ = some (.slice (some ⟨b, o, none⟩) t.x.l.length t.c)) 15 16 (by omega) (by kernel_rfl) (fun _ d _ _ _ h => by cases d <;> exact h) (by kernel_rfl) HC.out ?_
          simp only [List.take_succ_cons, List.take_zero, List.drop_succ_cons, List.drop_zero]
          iterate 15
            refine wpYield_step ?_
            apply Exists.intro
            refine ⟨⟨by rfl, fun wx hSx => ?_⟩, ?_⟩
            · obtain ⟨k0, k1, k5⟩ := hSx
              go_simp
              first
                | with_reducible rfl
                | (simp only [hwd, if_pos HCo.out, Int.toNat_natCast]; with_reducible rfl)
            simp only [Act.put, List.setIfInBounds_toArray, List.set_cons_zero, List.set_cons_succ]
          refine wpKeep_step rfl rfl fun K hK => ?_
          go_simp
          refine hK _ _ H7.out.2.2.1 ?_
          show wpList _ _ _ _ _ ((wq.drew).alloc (.cells #[.pointer (some ⟨b, o + t.d * 6, none⟩), .int .i64 0] 92))
          refine wpList_append_one (f := fS) (B := W.heap.size) step_elem rfl (.tmp 35) (.tmp 50) 93 rfl Tryd.underlying93 (.slice (some ⟨g, 0, none⟩) (N + 1) cp) (P ++ [{ t with d := t.d + 1 }]) (⟨b, o + t.d * 6, t.x.l[t.d], ay, cy, 0⟩ : St14) rfl (owL_below HQ.out.2.2.2.1 H7.out.1) wq.heap.size 1 rfl H7.out.2.1 rfl (fS_one _) (by rw [H7.out.2.2.2]; omega) (by have := H7.out.1.size; omega) ?_
          intro g7 c7 w7 ho7 hg7 _ _
          rw [H7.out.2.2.2] at ho7 ⊢
          have H8 := Lib.hid (And.intro ho7 hg7)
          clear ho7 hg7
          go_wp2_with fail
          gi_wp2
          have hlen2 : ((P ++ [{ t with d := t.d + 1 }]) ++ [(⟨b, o + t.d * 6, t.x.l[t.d], ay, cy, 0⟩ : St14)]).length = N + 2 := by simp [hN]
          have hm2 := todo_len ((P ++ [{ t with d := t.d + 1 }]) ++ [(⟨b, o + t.d * 6, t.x.l[t.d], ay, cy, 0⟩ : St14)])
          rw [hlen2] at hm2
          gi_roundg (2 * (todo ((P ++ [{ t with d := t.d + 1 }]) ++ [(⟨b, o + t.d * 6, t.x.l[t.d], ay, cy, 0⟩ : St14)])).length - (N + 2))
          · refine ⟨pre, (P ++ [{ t with d := t.d + 1 }]) ++ [(⟨b, o + t.d * 6, t.x.l[t.d], ay, cy, 0⟩ : St14)], some ⟨g7, 0, none⟩, c7, by rw [hlen2], by rw [hlen2], ?_⟩
            rw [hlen2]
            have hgo := owU_cells (owL_below HQ.out.2.2.2.1 H7.out.1) g rfl
            have ho7 := H8.out.2.mono (G := fun j => j = g) fun k _ e => by
              have e2 : some g = some k := e
              injection e2 with e2
              exact e2.symm
            exact Lib.hid ⟨HQ.out.2.2.2.2.2.2.2.1, surv_only (hJs _) (r := some g) (surv_below (hJs _) HQ.out.1 H7.out.1) (ho7.mono fun k _ e => by rw [e]) (fun j e => by cases e; exact hgo), side_only (side_below HQ.out.2.1 H7.out.1) ho7 (fun j e => by have e2 : j = g := e; omega), pinv_push HQ.out.2.2.1 hlt hbm HQ.out.2.2.2.2.1 HQ.out.2.2.2.2.2.1 HQ.out.2.2.2.2.2.2.1, H8.out.1⟩
          · have h1 := congrArg List.length HQ.out.2.2.2.2.2.2.2.1
            have h2 := congrArg List.length HI.out.say
            rw [List.length_append] at h1 h2
            rw [List.concat_eq_append, hlen]
            omega
end Upw
end Go.Proofs.YtmkckbidfpinfaaDoor
