/-
  Layer 14, the program's: the function that goes through an expression, whole.
-/
import Derived.Test.YtekahmlppaabjaaGreatDoorZSynPrC
import Derived.Test.YtekahmlppaabjaaGreatDoorZSynPr8
import Derived.Test.YtekahmlppaabjaaGreatDoorPk6
namespace Go.Proofs.YtekahmlppaabjaaGreatDoor
open Go.RowKit Go.Shelf
open Sx (X toksOf isT)
attribute [local go_sem] Oper.semAt_some
/-- cut short, by a part that may not be -/
def CutP (x : X) (ys : List (X × Nat)) : Prop := ∃ pre d rest, pre ++ rest = Sx.po x 1 ∧ ys = pre ++ [(Sx.no, d)]
set_option maxRecDepth 100000 in
set_option maxHeartbeats 25600000 in
theorem parts14_hands {n : Nat} (hn : 1 ≤ n) {w0 w : World} {m bx B2 : Nat} {Gd : X → Option Addr → Prop} {mk : Prop} {x : X} {a : Option Addr} {c : Nat} (hx : XAt w0 (fun j => j < m) x a) (hGx : Gd x a)
    (hG : ∀ y ay, Gd y ay → y.l.length ≤ maxLen ∧ ∀ (i : Nat) (h : i < y.l.length) b o az cz, ay = some ⟨b, o, none⟩ → Cells6 w0 b (o + i * 6) y.l[i] az cz → Gd y.l[i] az ∧ w0.frozen? ⟨b, o + i * 6, none⟩ = false ∧ (mk ∨ ∃ cs T, w0.heap[b]? = some (.cells cs T (0, 0))))
    (hd : Sx.deep x ≤ 1000) (hS : Side w0 w m bx x a c) :
    Hands (α := PA w0 m Gd mk) n Tryz.prog 38 #[.pointer (some ⟨bx, 0, none⟩)] encP (KpP m bx B2) (fun ys => ys.map pxd = Sx.po x 1 ∨ (mk ∧ CutP x (ys.map pxd))) (fun pre => (∃ rest, pre.map pxd ++ rest = Sx.po x 1) ∨ (mk ∧ CutP x (pre.map pxd))) (Sx.po x 1).length 82 w := by
  intro l J Jx W hbw _ hJs0 hJxs0 hY h0
  have hJs := fun s => (hJs0 s).surv (Nat.le_refl _)
  have hJxs := fun s => (hJxs0 s).surv (Nat.le_refl _)
  clear hJs0 hJxs0
  have hSW : Side w0 W m bx x a c := by
    have hl := rowV_lt hS.2.1
    refine ⟨fun j hj => (hbw.block j (Nat.lt_trans (Nat.lt_of_lt_of_le hj hS.2.2.1) hl)).trans (hS.1 j hj), (hbw.block bx hl).trans hS.2.1, hS.2.2⟩
  have hbxW := rowV_lt hSW.2.1
  have hmW : m ≤ W.heap.size := by have := hSW.2.2.1; omega
  obtain ⟨c0, c1, c2, c3, c4, c5⟩ := x_cells hSW.2.1
  simp only [Nat.zero_add] at c0 c1 c2 c3 c4 c5
  refine callsIn_of_wp Tryz.func38 rfl trivial ?_
  simp only [Tryz.ntmps38, List.size_toArray, List.length_cons, List.length_nil, Nat.reduceAdd, Nat.reduceSub, Array.replicate_succ, Array.replicate_zero, List.push_toArray, List.append_toArray, List.nil_append, List.cons_append]
  have hx1 : ((XAt w0 (fun j => j < m) x a ∧ Gd x a) ∨ (mk ∧ x = Sx.no)) ∧ 1 ≤ 2000 := ⟨.inl ⟨hx, hGx⟩, Nat.le_of_ble_eq_true rfl⟩
  obtain ⟨fn, tmps, assign, body, hy, hR⟩ := hY [] ⟨(x, a, c, 1), hx1⟩ W h0 (by rw [Sx.po_eq]; simp)
  dsimp only [encP, xV, xC] at hy
  rw [show ((1 : Nat) : Int) = 1 from rfl] at hy
  gi_wp2
  refine hR.mono ?_
  rintro e w4 (⟨rfl, hJ4, hk4⟩ | ⟨rfl, hJ4, -⟩)
  · have hS4 := side_kp hSW hk4
    have hs4 := hk4.1
    have hnr : RowV (w4.alloc (.cells #[.pointer (some ⟨bx, 0, none⟩), .int .i64 0] 82)) w4.heap.size 82 (fS ⟨bx, 0, x, a, c, 0⟩) := rowV_new w4 82 [_, _]
    have hnb : Below w4.heap.size w4 (w4.alloc (.cells #[.pointer (some ⟨bx, 0, none⟩), .int .i64 0] 82)) := (Below.refl w4.heap.size w4).alloc (Nat.le_refl _) _
    have I4 : ∃ P, P = [(⟨bx, 0, x, a, c, 0⟩ : St14)] ∧ PInv w0 m bx W.heap.size Gd mk x a c J [⟨(x, a, c, 1), hx1⟩] P (.slice (some ⟨w4.heap.size, 0, none⟩) 1 1) (w4.alloc (.cells #[.pointer (some ⟨bx, 0, none⟩), .int .i64 0] 82)) := by
      refine ⟨_, rfl, ?_, surv_below (hJs _) hJ4 hnb, side_below hS4 hnb, ⟨fun s hs => ?_, fun s hs => ?_, List.pairwise_singleton _ _, fun i hi => ?_⟩, owL_one (f := fS) hnr hs4 rfl⟩
      · rw [Sx.po_eq]; simp [todo]
      · rw [List.mem_singleton] at hs; subst hs; exact .inr ⟨rfl, rfl, rfl, rfl, rfl⟩
      · rw [List.mem_singleton] at hs; subst hs; exact ⟨hx, hGx, Nat.zero_le _⟩
      · obtain rfl : i = 0 := by simpa using hi
        exact hd
    clear hnr hnb
    have H4 := Lib.hid I4
    clear I4
    gi_wp2
    gi_loopg [3, 4] (2 * (todo 0 [(⟨bx, 0, x, a, c, 0⟩ : St14)]).length + 1) (fun k v3 v4 wr => ∃ (pre : List (PA w0 m Gd mk)) (P : List St14) (al : Option Addr) (cp : Nat), v3 = .slice al P.length cp ∧ v4 = .int .i64 (P.length : Int) ∧ k = 2 * (todo 0 P).length + P.length ∧ Hid (PInv w0 m bx W.heap.size Gd mk x a c J pre P (.slice al P.length cp) wr))
    case atStart =>
      obtain ⟨_, rfl, I4⟩ := H4.out
      exact ⟨_, [⟨bx, 0, x, a, c, 0⟩], _, _, rfl, rfl, rfl, Lib.hid I4⟩
    case round =>
      obtain ⟨pre, P, al, cp, rfl, rfl, rfl, HI⟩ := hrel
      rcases List.eq_nil_or_concat P with rfl | ⟨P, t, rfl⟩
      · gi_wp2
        go_end0
        have hsay := HI.out.say
        rw [todo, List.append_nil] at hsay
        exact ⟨⟨_, rfl⟩, .inl ⟨pre, .inl hsay, HI.out.j⟩⟩
      · have hlen : (P ++ [t]).length = P.length + 1 := by simp
        rw [List.concat_eq_append, hlen] at HI ⊢
        obtain ⟨g, rfl, -, hcp, hmax, hBg, hgs, hfew, z0, z1, fz1, z5⟩ := pinv_last HI.out
        have htd := (HI.out.way.sub t (by simp)).2.2
        generalize hN : P.length = N at *
        by_cases hdl : t.d = t.x.l.length
        · have hq : (((t.d : Nat) : Int) == ((t.x.l.length : Nat) : Int)) = true := by simp [hdl]
          gi_wp2
          gi_region
          all_goals
            gi_wp2
            gi_roundg (2 * (todo 0 P).length + N)
            · exact ⟨pre, P, _, cp, by rw [hN], by rw [hN], by rw [hN], by rw [hN]; exact Lib.hid (pinv_pop (pinv_below hJs HI.out (Below.refl _ _).drew) hN hdl)⟩
            · rw [List.concat_eq_append, todo_snoc, hdl, List.drop_length, Sx.poL, List.nil_append, hlen]
              omega
        · have hlt : t.d < t.x.l.length := by omega
          have hq : (((t.d : Nat) : Int) == ((t.x.l.length : Nat) : Int)) = false := by simp; omega
          have hGt := (HI.out.way.sub t (by simp)).2.1
          have hGl := (hG _ _ hGt).1
          have hI2 := pinv_below hJs HI.out ((Below.refl wr.heap.size wr).drew.trans (Below.refl _ wr.drew).drew)
          obtain ⟨b, o, ay, cy, ha, hbm, hcy, hxy, hne⟩ := way_next hI2.side hI2.way hlt
          obtain ⟨hGy, hfy, hmk⟩ := (hG _ _ hGt).2 t.d hlt b o ay cy ha hcy
          obtain ⟨wq, hwq, hJq, hSq, hWq, hOq, hoq⟩ := pinv_done hJs hI2 hmW hbxW hlt
          rw [hN] at hwq
          rw [ha] at z5
          obtain ⟨y0, y1, y2, y3, y4, y5⟩ := side_cells HI.out.side hbm hcy
          have hwq2 : wq = (wr.setCell ⟨g, N * 2 + 1, none⟩ (.int .i64 ((t.d : Int) + 1))).drew.drew := hwq
          have hbg : ¬ b = g := by omega
          have hi2 : (N + 1) / 2 < (P ++ [t]).length := by omega
          have hp2 := (owL_at1 (f := fS) (fun _ _ => rfl) HI.out.own ((N + 1) / 2) hi2 0 _ rfl).1
          rw [Nat.add_zero] at hp2
          have hn2 := hne _ (List.getElem_mem hi2)
          have hc2 := (way_cells hSq hI2.way _ (List.getElem_mem hi2)).1
          generalize (P ++ [t])[(N + 1) / 2] = s2 at hp2 hn2 hc2
          -- the two places are compared
          have hcq := (side_cells hSq hbm hcy).1
          obtain ⟨cs1, T1, f1, e1, ne1⟩ := cell_cells hcq
          obtain ⟨cs2, T2, f2, e2, ne2⟩ := cell_cells hc2
          have hbq := hSq.1 b hbm
          have hfq : wq.frozen? ⟨b, o + t.d * 6, none⟩ = false := by
            rw [← hfy]; unfold World.frozen?; rw [hbq]
          obtain ⟨bb, k, hcmp, hbb⟩ := ptr_cmp14 wq ⟨b, o + t.d * 6, none⟩ ⟨s2.b, s2.o, none⟩ (fun e => hn2 e.symm) hfq e1 e2 ne1 ne2
          have hbb2 : bb = true → mk := fun hb => by
            rcases hmk with h | ⟨cs, T, h⟩
            · exact h
            · rw [hbq, h] at e1
              injection e1 with e1
              injection e1 with _ _ e1
              have := hbb (.inr e1.symm)
              rw [hb] at this; cases this
          have hsay := say_push (b := b) (o := o + t.d * 6) (ay := ay) (cy := cy) HI.out.say hlt
          rw [hN] at hsay
          have hpl : pre.length < (Sx.po x 1).length := by rw [← hsay]; simp
          have hwk : Below wq.heap.size wq (wq.drewN k) := ⟨rfl, rfl, rfl, Nat.le_refl _, fun _ _ => rfl⟩
          generalize wq.drewN k = wk at hcmp hwk
          have hJk := surv_below (hJs _) hJq hwk
          have hSk := side_below hSq hwk
          have hOk := owL_below hOq hwk
          obtain ⟨v0, v1, v2, v3, v4, v5⟩ := side_cells hSk hbm hcy
          have hcast : ((N + 2 : Nat) : Int) = (N : Int) + 1 + 1 := by omega
          have hHQ := Lib.hid (And.intro hSk (And.intro hWq (And.intro hOk (And.intro hcy (And.intro hxy (And.intro hGy hsay))))))
          clear hJq hSq hWq hOq hoq hcy hne hwq hSk hOk hn2 hc2 hcq e1 e2 ne1 ne2 hbq hfq hfy hmk hbb hI2 hGt
          unfold maxLen at hGl
          cases bb with
          | true =>
            obtain ⟨fn, tmps, assign, body, hy, hR⟩ := hY pre ⟨(Sx.no, none, 0, N + 2), .inr ⟨hbb2 rfl, rfl⟩, (by omega : N + 2 ≤ 2000)⟩ _ hJk hpl
            have hen : encP (⟨(Sx.no, none, 0, N + 2), .inr ⟨hbb2 rfl, rfl⟩, (by omega : N + 2 ≤ 2000)⟩ : PA w0 m Gd mk) = #[.agg #[.int .i64 0, .int .i64 0, .int .i64 0, .string ⟨#[]⟩, .string ⟨#[]⟩, .slice none 0 0], .int .i64 ((N : Int) + 1 + 1)] := by
              rw [← hcast]; rfl
            rw [hen] at hy
            clear hJk hsay hwk
            rw [hwq2] at hcmp
            clear hwq2
            gi_wp2
            gi_region
            all_goals
              gi_wp2
              gi_region
              all_goals
                gi_wp2
                refine hR.mono ?_
                have hcut : mk ∧ CutP x ((pre ++ [(⟨(Sx.no, none, 0, N + 2), .inr ⟨hbb2 rfl, rfl⟩, (by omega : N + 2 ≤ 2000)⟩ : PA w0 m Gd mk)]).map pxd) := ⟨hbb2 rfl, pre.map pxd, N + 2, _, hHQ.out.2.2.2.2.2.2, by simp⟩
                rintro e w5 (⟨rfl, hJ5, hk5⟩ | ⟨rfl, hJ5, -⟩)
                · gi_wp2
                  refine bodyPost_ret (results_none rfl _ _ _) rfl ?_
                  exact ⟨⟨_, rfl⟩, .inl ⟨_, .inr hcut, hJ5⟩⟩
                · gi_wp2
                  refine bodyPost_ret (results_none rfl _ _ _) rfl ?_
                  exact ⟨⟨_, rfl⟩, .inr ⟨_, .inr hcut, hJ5⟩⟩
          | false =>
            obtain ⟨fn, tmps, assign, body, hy, hR⟩ := hY pre ⟨(t.x.l[t.d], ay, cy, N + 2), .inl ⟨hxy, hGy⟩, (by omega : N + 2 ≤ 2000)⟩ _ hJk hpl
            dsimp only [encP, xV, xC] at hy
            rw [hcast] at hy
            clear hJk hsay hwk
            rw [hwq2] at hcmp
            clear hwq2
            gi_wp2
            gi_region
            all_goals
              gi_wp2
              gi_region
              all_goals
                gi_wp2
                refine hR.mono ?_
                rintro e w5 (⟨rfl, hJ5, hk5⟩ | ⟨rfl, hJ5, -⟩)
                · have hnr : RowV (w5.alloc (.cells #[.pointer (some ⟨b, o + t.d * 6, none⟩), .int .i64 0] 82)) w5.heap.size 82 (fS ⟨b, o + t.d * 6, t.x.l[t.d], ay, cy, 0⟩) := rowV_new w5 82 [_, _]
                  have hnb : Below w5.heap.size w5 (w5.alloc (.cells #[.pointer (some ⟨b, o + t.d * 6, none⟩), .int .i64 0] 82)) := (Below.refl w5.heap.size w5).alloc (Nat.le_refl _) _
                  have hJ6 := surv_below (hJs _) hJ5 hnb
                  have hS6 := side_below (side_kp hHQ.out.1 hk5) hnb
                  have hO6 := owL_below (owS_kp hHQ.out.2.2.1 hk5) hnb
                  have hs5 : W.heap.size ≤ w5.heap.size := Nat.le_trans (Nat.le_of_lt (Nat.lt_of_le_of_lt hBg (owL_lt hHQ.out.2.2.1 g rfl).2)) hk5.1
                  have H6 := Lib.hid (And.intro hJ6 (And.intro hS6 (And.intro hO6 hnr)))
                  clear hJ6 hS6 hO6 hnr hJ5 hk5 v0 v1 v2 v3 v4 v5
                  gi_wp2_with (gi_at_builtin; refine wpListIn_append_one14 (f := fS) (B := W.heap.size) step_elem rfl _ _ 83 rfl Tryz.underlying83 (.slice (some ⟨g, 0, none⟩) (N + 1) cp) (P ++ [{ t with d := t.d + 1 }]) (⟨b, o + t.d * 6, t.x.l[t.d], ay, cy, 0⟩ : St14) rfl H6.out.2.2.1 w5.heap.size 1 rfl H6.out.2.2.2 rfl (fS_one _) (by simp; omega) (by have := hnb.size; omega) ?_; intro v' w7 ho7 hg7; obtain ⟨a7, c7, he7, -⟩ := owL_form ho7; subst he7; have H7 := Lib.hid (And.intro ho7 hg7); clear ho7 hg7)
                  have hlen2 : ((P ++ [{ t with d := t.d + 1 }]) ++ [(⟨b, o + t.d * 6, t.x.l[t.d], ay, cy, 0⟩ : St14)]).length = N + 2 := by simp [hN]
                  have hcast2 : (N : Int) + 1 + 1 = ((N + 2 : Nat) : Int) := by omega
                  gi_roundg (2 * (todo 0 ((P ++ [{ t with d := t.d + 1 }]) ++ [(⟨b, o + t.d * 6, t.x.l[t.d], ay, cy, 0⟩ : St14)])).length + (N + 2))
                  · refine ⟨pre ++ [⟨(t.x.l[t.d], ay, cy, N + 2), .inl ⟨hxy, hGy⟩, (by omega : N + 2 ≤ 2000)⟩], (P ++ [{ t with d := t.d + 1 }]) ++ [(⟨b, o + t.d * 6, t.x.l[t.d], ay, cy, 0⟩ : St14)], a7, c7, by rw [hlen2], by rw [hlen2, hcast2], by rw [hlen2], ?_⟩
                    have hgo := owS_cells H6.out.2.2.1 g rfl
                    have ho7 : Only (fun j => j = g) (w5.alloc (.cells #[.pointer (some ⟨b, o + t.d * 6, none⟩), .int .i64 0] 82)) w7 := H7.out.2.mono fun k _ e => by
                      have e2 : some g = some k := e
                      injection e2 with e2
                      exact e2.symm
                    refine Lib.hid ⟨?_, surv_only (hJs _) (r := some g) H6.out.1 (ho7.mono fun k _ e => by rw [e]) (fun j e => by cases e; exact hgo), side_only H6.out.2.1 ho7 (fun j e => by have e2 : j = g := e; omega), pinv_push hHQ.out.2.1 hlt hbm hHQ.out.2.2.2.1 hxy hGy, H7.out.1⟩
                    have := hHQ.out.2.2.2.2.2.2
                    rw [List.map_append, List.append_assoc]
                    exact this
                  · have h1 := congrArg List.length hHQ.out.2.2.2.2.2.2
                    have h2 := congrArg List.length HI.out.say
                    rw [List.length_append] at h1 h2
                    rw [List.length_cons] at h1
                    rw [List.concat_eq_append, hlen]
                    omega
                · gi_wp2
                  refine bodyPost_ret (results_none rfl _ _ _) rfl ?_
                  exact ⟨⟨_, rfl⟩, .inr ⟨_, .inl ⟨_, by have := hHQ.out.2.2.2.2.2.2; rw [List.map_append, List.append_assoc]; exact this⟩, hJ5⟩⟩
  · gi_wp2
    refine bodyPost_ret (results_none rfl _ _ _) rfl ?_
    exact ⟨⟨_, rfl⟩, .inr ⟨_, .inl ⟨_, by rw [Sx.po_eq]; rfl⟩, hJ4⟩⟩
end Go.Proofs.YtekahmlppaabjaaGreatDoor
