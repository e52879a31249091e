/-
  Texts of the layers, part 3: SynPrD, SynPrE, SynPrF, SynPrG, SynPrH, SynPrQ, QRound, Plan3R, SynPrI, MapS, SynPrR, SynPrL, TypMath, TypRes, TypRes2, TypScope, TypBack, TypScope2, TypUp1, Rft2, RelyR, Goto2, LexRight, LexMark, LexText, LexProg7, LexProg8, LexJoin, StrJoin, LexProg9, LexSame, LexSam, LexLives, LexLawsW, LexOpen, LexTextsW, LexBackW, LexAgainW, ValBox, ValPart, ValTake, ValRows, ValCmp, LexLaid, OctNum, OctFix, ValByte, ValRow2, ValRow3, ValOpen, FrSets.
-/
import Derived.Test.YtmkllibfblacfaaGreatDoorPk2
import Derived.Test.YtmkllibfblacfaaGreatDoorPk1
import Derived.OrdersIn
import Derived.TacticsIn
import Derived.RangeFuncCalls
import Derived.OwnWalkIn
import Derived.Maps.OwnSet
import Derived.BigQuiet
import Derived.WalkKit
import Derived.Below
import Derived.Scope
import Derived.WalkMore
import Derived.Control
import Derived.Laws.StructEq
import Derived.LaidEql
import Derived.Deep.Cut
import Derived.Shelf.Strings.OnBuilder
import Derived.Test.YtmkllibfblacfaaGreatDoorProg
import Derived.Deep.Slices
import Derived.ChangeSlices
import Derived.ChangeArms
import Derived.OpenShut
import Derived.Laws.ResultCell
import Derived.Test.YtmkllibfblacfaaGreatDoorRows
import Derived.Lib.LaidTab
import Derived.LaidMore
import Derived.Stop.Joined
import Derived.WalkSmall
/-
  Layer 14, the program's: the function that goes through an expression, whole.
-/
namespace Go.Proofs.YtmkllibfblacfaaGreatDoor
open Go.RowKit Go.Shelf
open Sx (X toksOf isT)
attribute [local go_sem] Oper.semAt_some
/-- cut short, by a part that may not be -/
def CutP (x : X) (ys : List (X × Nat)) : Prop := ∃ pre d rest, pre ++ rest = Sx.po x 1 ∧ ys = pre ++ [(Sx.no, d)]
set_option maxRecDepth 100000 in
set_option maxHeartbeats 25600000 in
theorem parts14_hands {n : Nat} (hn : 1 ≤ n) {w0 w : World} {m bx B2 : Nat} {Gd : X → Option Addr → Prop} {mk : Prop} {x : X} {a : Option Addr} {c : Nat} (hx : XAt w0 (fun j => j < m) x a) (hGx : Gd x a)
    (hG : ∀ y ay, Gd y ay → y.l.length ≤ maxLen ∧ ∀ (i : Nat) (h : i < y.l.length) b o az cz, ay = some ⟨b, o, none⟩ → Cells6 w0 b (o + i * 6) y.l[i] az cz → Gd y.l[i] az ∧ w0.frozen? ⟨b, o + i * 6, none⟩ = false ∧ (mk ∨ ∃ cs T, w0.heap[b]? = some (.cells cs T (0, 0))))
    (hd : Sx.deep x ≤ 1000) (hS : Side w0 w m bx x a c) :
    Hands (α := PA w0 m Gd mk) n Tryz.prog 67 #[.pointer (some ⟨bx, 0, none⟩)] encP (KpP m bx B2) (fun ys => ys.map pxd = Sx.po x 1 ∨ (mk ∧ CutP x (ys.map pxd))) (fun pre => (∃ rest, pre.map pxd ++ rest = Sx.po x 1) ∨ (mk ∧ CutP x (pre.map pxd))) (Sx.po x 1).length 119 w := by
  intro l J Jx W hbw _ hJs0 hJxs0 hY h0
  have hJs := fun s => (hJs0 s).surv (Nat.le_refl _)
  have hJxs := fun s => (hJxs0 s).surv (Nat.le_refl _)
  clear hJs0 hJxs0
  have hSW : Side w0 W m bx x a c := by
    have hl := rowV_lt hS.2.1
    refine ⟨fun j hj => (hbw.block j (Nat.lt_trans (Nat.lt_of_lt_of_le hj hS.2.2.1) hl)).trans (hS.1 j hj), (hbw.block bx hl).trans hS.2.1, hS.2.2⟩
  have hbxW := rowV_lt hSW.2.1
  have hmW : m ≤ W.heap.size := by have := hSW.2.2.1; omega
  obtain ⟨c0, c1, c2, c3, c4, c5⟩ := x_cells hSW.2.1
  simp only [Nat.zero_add] at c0 c1 c2 c3 c4 c5
  refine callsIn_of_wp Tryz.func67 rfl trivial ?_
  simp only [Tryz.ntmps67, List.size_toArray, List.length_cons, List.length_nil, Nat.reduceAdd, Nat.reduceSub, Array.replicate_succ, Array.replicate_zero, List.push_toArray, List.append_toArray, List.nil_append, List.cons_append]
  have hx1 : ((XAt w0 (fun j => j < m) x a ∧ Gd x a) ∨ (mk ∧ x = Sx.no)) ∧ 1 ≤ 2000 := ⟨.inl ⟨hx, hGx⟩, Nat.le_of_ble_eq_true rfl⟩
  obtain ⟨fn, tmps, assign, body, hy, hR⟩ := hY [] ⟨(x, a, c, 1), hx1⟩ W h0 (by rw [Sx.po_eq]; simp)
  dsimp only [encP, xV, xC] at hy
  rw [show ((1 : Nat) : Int) = 1 from rfl] at hy
  gi_wp2
  refine hR.mono ?_
  rintro e w4 (⟨rfl, hJ4, hk4⟩ | ⟨rfl, hJ4, -⟩)
  · have hS4 := side_kp hSW hk4
    have hs4 := hk4.1
    have hnr : RowV (w4.alloc (.cells #[.pointer (some ⟨bx, 0, none⟩), .int .i64 0] 119)) w4.heap.size 119 (fS ⟨bx, 0, x, a, c, 0⟩) := rowV_new w4 119 [_, _]
    have hnb : Below w4.heap.size w4 (w4.alloc (.cells #[.pointer (some ⟨bx, 0, none⟩), .int .i64 0] 119)) := (Below.refl w4.heap.size w4).alloc (Nat.le_refl _) _
    have I4 : ∃ P, P = [(⟨bx, 0, x, a, c, 0⟩ : St14)] ∧ PInv w0 m bx W.heap.size Gd mk x a c J [⟨(x, a, c, 1), hx1⟩] P (.slice (some ⟨w4.heap.size, 0, none⟩) 1 1) (w4.alloc (.cells #[.pointer (some ⟨bx, 0, none⟩), .int .i64 0] 119)) := by
      refine ⟨_, rfl, ?_, surv_below (hJs _) hJ4 hnb, side_below hS4 hnb, ⟨fun s hs => ?_, fun s hs => ?_, List.pairwise_singleton _ _, fun i hi => ?_⟩, owL_one (f := fS) hnr hs4 rfl⟩
      · rw [Sx.po_eq]; simp [todo]
      · rw [List.mem_singleton] at hs; subst hs; exact .inr ⟨rfl, rfl, rfl, rfl, rfl⟩
      · rw [List.mem_singleton] at hs; subst hs; exact ⟨hx, hGx, Nat.zero_le _⟩
      · obtain rfl : i = 0 := by simpa using hi
        exact hd
    clear hnr hnb
    have H4 := Lib.hid I4
    clear I4
    gi_wp2
    gi_loopg [3, 4] (2 * (todo 0 [(⟨bx, 0, x, a, c, 0⟩ : St14)]).length + 1) (fun k v3 v4 wr => ∃ (pre : List (PA w0 m Gd mk)) (P : List St14) (al : Option Addr) (cp : Nat), v3 = .slice al P.length cp ∧ v4 = .int .i64 (P.length : Int) ∧ k = 2 * (todo 0 P).length + P.length ∧ Hid (PInv w0 m bx W.heap.size Gd mk x a c J pre P (.slice al P.length cp) wr))
    case atStart =>
      obtain ⟨_, rfl, I4⟩ := H4.out
      exact ⟨_, [⟨bx, 0, x, a, c, 0⟩], _, _, rfl, rfl, rfl, Lib.hid I4⟩
    case round =>
      obtain ⟨pre, P, al, cp, rfl, rfl, rfl, HI⟩ := hrel
      rcases List.eq_nil_or_concat P with rfl | ⟨P, t, rfl⟩
      · gi_wp2
        go_end0
        have hsay := HI.out.say
        rw [todo, List.append_nil] at hsay
        exact ⟨⟨_, rfl⟩, .inl ⟨pre, .inl hsay, HI.out.j⟩⟩
      · have hlen : (P ++ [t]).length = P.length + 1 := by simp
        rw [List.concat_eq_append, hlen] at HI ⊢
        obtain ⟨g, rfl, -, hcp, hmax, hBg, hgs, hfew, z0, z1, fz1, z5⟩ := pinv_last HI.out
        have htd := (HI.out.way.sub t (by simp)).2.2
        generalize hN : P.length = N at *
        by_cases hdl : t.d = t.x.l.length
        · have hq : (((t.d : Nat) : Int) == ((t.x.l.length : Nat) : Int)) = true := by simp [hdl]
          gi_wp2
          gi_region
          all_goals
            gi_wp2
            gi_roundg (2 * (todo 0 P).length + N)
            · exact ⟨pre, P, _, cp, by rw [hN], by rw [hN], by rw [hN], by rw [hN]; exact Lib.hid (pinv_pop (pinv_below hJs HI.out (Below.refl _ _).drew) hN hdl)⟩
            · rw [List.concat_eq_append, todo_snoc, hdl, List.drop_length, Sx.poL, List.nil_append, hlen]
              omega
        · have hlt : t.d < t.x.l.length := by omega
          have hq : (((t.d : Nat) : Int) == ((t.x.l.length : Nat) : Int)) = false := by simp; omega
          have hGt := (HI.out.way.sub t (by simp)).2.1
          have hGl := (hG _ _ hGt).1
          have hI2 := pinv_below hJs HI.out ((Below.refl wr.heap.size wr).drew.trans (Below.refl _ wr.drew).drew)
          obtain ⟨b, o, ay, cy, ha, hbm, hcy, hxy, hne⟩ := way_next hI2.side hI2.way hlt
          obtain ⟨hGy, hfy, hmk⟩ := (hG _ _ hGt).2 t.d hlt b o ay cy ha hcy
          obtain ⟨wq, hwq, hJq, hSq, hWq, hOq, hoq⟩ := pinv_done hJs hI2 hmW hbxW hlt
          rw [hN] at hwq
          rw [ha] at z5
          obtain ⟨y0, y1, y2, y3, y4, y5⟩ := side_cells HI.out.side hbm hcy
          have hwq2 : wq = (wr.setCell ⟨g, N * 2 + 1, none⟩ (.int .i64 ((t.d : Int) + 1))).drew.drew := hwq
          have hbg : ¬ b = g := by omega
          have hi2 : (N + 1) / 2 < (P ++ [t]).length := by omega
          have hp2 := (owL_at1 (f := fS) (fun _ _ => rfl) HI.out.own ((N + 1) / 2) hi2 0 _ rfl).1
          rw [Nat.add_zero] at hp2
          have hn2 := hne _ (List.getElem_mem hi2)
          have hc2 := (way_cells hSq hI2.way _ (List.getElem_mem hi2)).1
          generalize (P ++ [t])[(N + 1) / 2] = s2 at hp2 hn2 hc2
          -- the two places are compared
          have hcq := (side_cells hSq hbm hcy).1
          obtain ⟨cs1, T1, f1, e1, ne1⟩ := cell_cells hcq
          obtain ⟨cs2, T2, f2, e2, ne2⟩ := cell_cells hc2
          have hbq := hSq.1 b hbm
          have hfq : wq.frozen? ⟨b, o + t.d * 6, none⟩ = false := by
            rw [← hfy]; unfold World.frozen?; rw [hbq]
          obtain ⟨bb, k, hcmp, hbb⟩ := ptr_cmp14 wq ⟨b, o + t.d * 6, none⟩ ⟨s2.b, s2.o, none⟩ (fun e => hn2 e.symm) hfq e1 e2 ne1 ne2
          have hbb2 : bb = true → mk := fun hb => by
            rcases hmk with h | ⟨cs, T, h⟩
            · exact h
            · rw [hbq, h] at e1
              injection e1 with e1
              injection e1 with _ _ e1
              have := hbb (.inr e1.symm)
              rw [hb] at this; cases this
          have hsay := say_push (b := b) (o := o + t.d * 6) (ay := ay) (cy := cy) HI.out.say hlt
          rw [hN] at hsay
          have hpl : pre.length < (Sx.po x 1).length := by rw [← hsay]; simp
          have hwk : Below wq.heap.size wq (wq.drewN k) := ⟨rfl, rfl, rfl, Nat.le_refl _, fun _ _ => rfl⟩
          generalize wq.drewN k = wk at hcmp hwk
          have hJk := surv_below (hJs _) hJq hwk
          have hSk := side_below hSq hwk
          have hOk := owL_below hOq hwk
          obtain ⟨v0, v1, v2, v3, v4, v5⟩ := side_cells hSk hbm hcy
          have hcast : ((N + 2 : Nat) : Int) = (N : Int) + 1 + 1 := by omega
          have hHQ := Lib.hid (And.intro hSk (And.intro hWq (And.intro hOk (And.intro hcy (And.intro hxy (And.intro hGy hsay))))))
          clear hJq hSq hWq hOq hoq hcy hne hwq hSk hOk hn2 hc2 hcq e1 e2 ne1 ne2 hbq hfq hfy hmk hbb hI2 hGt
          unfold maxLen at hGl
          cases bb with
          | true =>
            obtain ⟨fn, tmps, assign, body, hy, hR⟩ := hY pre ⟨(Sx.no, none, 0, N + 2), .inr ⟨hbb2 rfl, rfl⟩, (by omega : N + 2 ≤ 2000)⟩ _ hJk hpl
            have hen : encP (⟨(Sx.no, none, 0, N + 2), .inr ⟨hbb2 rfl, rfl⟩, (by omega : N + 2 ≤ 2000)⟩ : PA w0 m Gd mk) = #[.agg #[.int .i64 0, .int .i64 0, .int .i64 0, .string ⟨#[]⟩, .string ⟨#[]⟩, .slice none 0 0], .int .i64 ((N : Int) + 1 + 1)] := by
              rw [← hcast]; rfl
            rw [hen] at hy
            clear hJk hsay hwk
            rw [hwq2] at hcmp
            clear hwq2
            gi_wp2
            gi_region
            all_goals
              gi_wp2
              gi_region
              all_goals
                gi_wp2
                refine hR.mono ?_
                have hcut : mk ∧ CutP x ((pre ++ [(⟨(Sx.no, none, 0, N + 2), .inr ⟨hbb2 rfl, rfl⟩, (by omega : N + 2 ≤ 2000)⟩ : PA w0 m Gd mk)]).map pxd) := ⟨hbb2 rfl, pre.map pxd, N + 2, _, hHQ.out.2.2.2.2.2.2, by simp⟩
                rintro e w5 (⟨rfl, hJ5, hk5⟩ | ⟨rfl, hJ5, -⟩)
                · gi_wp2
                  refine bodyPost_ret (results_none rfl _ _ _) rfl ?_
                  exact ⟨⟨_, rfl⟩, .inl ⟨_, .inr hcut, hJ5⟩⟩
                · gi_wp2
                  refine bodyPost_ret (results_none rfl _ _ _) rfl ?_
                  exact ⟨⟨_, rfl⟩, .inr ⟨_, .inr hcut, hJ5⟩⟩
          | false =>
            obtain ⟨fn, tmps, assign, body, hy, hR⟩ := hY pre ⟨(t.x.l[t.d], ay, cy, N + 2), .inl ⟨hxy, hGy⟩, (by omega : N + 2 ≤ 2000)⟩ _ hJk hpl
            dsimp only [encP, xV, xC] at hy
            rw [hcast] at hy
            clear hJk hsay hwk
            rw [hwq2] at hcmp
            clear hwq2
            gi_wp2
            gi_region
            all_goals
              gi_wp2
              gi_region
              all_goals
                gi_wp2
                refine hR.mono ?_
                rintro e w5 (⟨rfl, hJ5, hk5⟩ | ⟨rfl, hJ5, -⟩)
                · have hnr : RowV (w5.alloc (.cells #[.pointer (some ⟨b, o + t.d * 6, none⟩), .int .i64 0] 119)) w5.heap.size 119 (fS ⟨b, o + t.d * 6, t.x.l[t.d], ay, cy, 0⟩) := rowV_new w5 119 [_, _]
                  have hnb : Below w5.heap.size w5 (w5.alloc (.cells #[.pointer (some ⟨b, o + t.d * 6, none⟩), .int .i64 0] 119)) := (Below.refl w5.heap.size w5).alloc (Nat.le_refl _) _
                  have hJ6 := surv_below (hJs _) hJ5 hnb
                  have hS6 := side_below (side_kp hHQ.out.1 hk5) hnb
                  have hO6 := owL_below (owS_kp hHQ.out.2.2.1 hk5) hnb
                  have hs5 : W.heap.size ≤ w5.heap.size := Nat.le_trans (Nat.le_of_lt (Nat.lt_of_le_of_lt hBg (owL_lt hHQ.out.2.2.1 g rfl).2)) hk5.1
                  have H6 := Lib.hid (And.intro hJ6 (And.intro hS6 (And.intro hO6 hnr)))
                  clear hJ6 hS6 hO6 hnr hJ5 hk5 v0 v1 v2 v3 v4 v5
                  gi_wp2_with (gi_at_builtin; refine wpListIn_append_one14 (f := fS) (B := W.heap.size) step_elem rfl _ _ 120 rfl Tryz.underlying120 (.slice (some ⟨g, 0, none⟩) (N + 1) cp) (P ++ [{ t with d := t.d + 1 }]) (⟨b, o + t.d * 6, t.x.l[t.d], ay, cy, 0⟩ : St14) rfl H6.out.2.2.1 w5.heap.size 1 rfl H6.out.2.2.2 rfl (fS_one _) (by simp; omega) (by have := hnb.size; omega) ?_; intro v' w7 ho7 hg7; obtain ⟨a7, c7, he7, -⟩ := owL_form ho7; subst he7; have H7 := Lib.hid (And.intro ho7 hg7); clear ho7 hg7)
                  have hlen2 : ((P ++ [{ t with d := t.d + 1 }]) ++ [(⟨b, o + t.d * 6, t.x.l[t.d], ay, cy, 0⟩ : St14)]).length = N + 2 := by simp [hN]
                  have hcast2 : (N : Int) + 1 + 1 = ((N + 2 : Nat) : Int) := by omega
                  gi_roundg (2 * (todo 0 ((P ++ [{ t with d := t.d + 1 }]) ++ [(⟨b, o + t.d * 6, t.x.l[t.d], ay, cy, 0⟩ : St14)])).length + (N + 2))
                  · refine ⟨pre ++ [⟨(t.x.l[t.d], ay, cy, N + 2), .inl ⟨hxy, hGy⟩, (by omega : N + 2 ≤ 2000)⟩], (P ++ [{ t with d := t.d + 1 }]) ++ [(⟨b, o + t.d * 6, t.x.l[t.d], ay, cy, 0⟩ : St14)], a7, c7, by rw [hlen2], by rw [hlen2, hcast2], by rw [hlen2], ?_⟩
                    have hgo := owS_cells H6.out.2.2.1 g rfl
                    have ho7 : Only (fun j => j = g) (w5.alloc (.cells #[.pointer (some ⟨b, o + t.d * 6, none⟩), .int .i64 0] 119)) w7 := H7.out.2.mono fun k _ e => by
                      have e2 : some g = some k := e
                      injection e2 with e2
                      exact e2.symm
                    refine Lib.hid ⟨?_, surv_only (hJs _) (r := some g) H6.out.1 (ho7.mono fun k _ e => by rw [e]) (fun j e => by cases e; exact hgo), side_only H6.out.2.1 ho7 (fun j e => by have e2 : j = g := e; omega), pinv_push hHQ.out.2.1 hlt hbm hHQ.out.2.2.2.1 hxy hGy, H7.out.1⟩
                    have := hHQ.out.2.2.2.2.2.2
                    rw [List.map_append, List.append_assoc]
                    exact this
                  · have h1 := congrArg List.length hHQ.out.2.2.2.2.2.2
                    have h2 := congrArg List.length HI.out.say
                    rw [List.length_append] at h1 h2
                    rw [List.length_cons] at h1
                    rw [List.concat_eq_append, hlen]
                    omega
                · gi_wp2
                  refine bodyPost_ret (results_none rfl _ _ _) rfl ?_
                  exact ⟨⟨_, rfl⟩, .inr ⟨_, .inl ⟨_, by have := hHQ.out.2.2.2.2.2.2; rw [List.map_append, List.append_assoc]; exact this⟩, hJ5⟩⟩
  · gi_wp2
    refine bodyPost_ret (results_none rfl _ _ _) rfl ?_
    exact ⟨⟨_, rfl⟩, .inr ⟨_, .inl ⟨_, by rw [Sx.po_eq]; rfl⟩, hJ4⟩⟩
end Go.Proofs.YtmkllibfblacfaaGreatDoor

/-
  Layer 14, the program's: whether an expression may be, whatever its parts are.
-/
namespace Go.Proofs.YtmkllibfblacfaaGreatDoor
open Go.RowKit
open Sx (X)
namespace Sx
/-- may it be, whatever its parts are? -/
def rightN (x : X) : Bool :=
  if x.op = 1 then decide (Vl.right x.v) && (decide (0 ≤ x.v.n) && (decide (x.s = Vl.mt) && decide (x.l.length = 0)))
  else if x.op = 2 then decide (x.v = Vl.no) && (Lx.nameB x.s && decide (x.l.length = 0))
  else decide (0 < cntP x.op) && (decide ((x.l.length : Int) = cntP x.op) && (decide (x.v = Vl.no) && decide (x.s = Vl.mt)))
end Sx
set_option maxRecDepth 100000 in
set_option maxHeartbeats 25600000 in
theorem right14_any (x : X) (hok : Sx.okX x) (hs : x.s.size ≤ 1000000) (a : Option Addr) (c : Nat) (w : World) (hE : ErrR w) : Calls Tryz.prog 45 #[xV x a c] w fun e w' => e = .returned (.bool (Sx.rightN x)) ∧ Below w.heap.size w w' := by
  have hB0 := Lib.hid (x_new x a c w).2.1
  obtain ⟨hnn, hvs, hss, hlen⟩ := Sx.okX_is hok
  have HL := Lib.hid fun (wr : World) (hb : Below (w.alloc (.cells (xC x a c) 43)).heap.size (w.alloc (.cells (xC x a c) 43)) wr) => x_look hb
  obtain ⟨⟨c0, c1, c2, c3, c4, c5⟩, _⟩ := HL.out _ (Below.refl _ _)
  simp only [Nat.zero_add] at c0 c1 c2 c3 c4 c5
  have e1 := mt_beq x.s
  have e2 := fun wx => eql_val x.v Vl.no wx
  unfold maxLen at hlen
  by_cases h1 : x.op = 1
  · have hR : Sx.rightN x = (decide (Vl.right x.v) && (decide (0 ≤ x.v.n) && (decide (x.s = Vl.mt) && decide (x.l.length = 0)))) := if_pos h1
    have q1 : (x.op == 1) = true := by simp [h1]
    have cV := fun wx => check12_any x.v wx
    have l1 : (((x.l.length : Nat) : Int) == 0) = decide (x.l.length = 0) := by by_cases h : x.l.length = 0 <;> simp [h]
    by_cases hv : Vl.right x.v
    · rw [decide_eq_true hv, Bool.true_and] at hR
      rw [checkE_ok hv] at cV
      have HC := Lib.hid cV
      clear cV
      generalize decide (x.l.length = 0) = b4 at *
      generalize decide (x.s = Vl.mt) = b3 at *
      cases b3 <;> cases b4 <;> (by_cases h0 : 0 ≤ x.v.n) <;> (first | rw [decide_eq_true h0] at hR | rw [decide_eq_false h0] at hR) <;>
      · have HR := Lib.hid hR
        clear hR
        go_enter Tryz.func45, Tryz.ntmps45
        go_wp2_with ((go_at_call 15; refine (HC.out _).mono ?_; rintro e w1 ⟨rfl, hb⟩; obtain ⟨⟨k0, k1, k2, k3, k4, k5⟩, hBw⟩ := HL.out w1 hb; simp only [Nat.zero_add] at k0 k1 k2 k3 k4 k5; have HBw := Lib.hid hBw; clear hBw hb))
        go_ret
        exact ⟨ret_bool (by rw [HR.out]; rfl), HBw.out⟩
    · rw [decide_eq_false hv, Bool.false_and] at hR
      rw [checkE_bad hv] at cV
      have HC := Lib.hid cV
      have HR := Lib.hid hR
      clear cV hR
      go_enter Tryz.func45, Tryz.ntmps45
      go_wp2_with ((go_at_call 15; refine (HC.out _).mono ?_; rintro e w1 ⟨rfl, hb⟩; obtain ⟨⟨k0, k1, k2, k3, k4, k5⟩, hBw⟩ := HL.out w1 hb; simp only [Nat.zero_add] at k0 k1 k2 k3 k4 k5; have HBw := Lib.hid hBw; clear hBw hb))
      go_ret
      exact ⟨ret_bool (by rw [HR.out]), HBw.out⟩
  · by_cases h2 : x.op = 2
    · have hR : Sx.rightN x = (decide (x.v = Vl.no) && (Lx.nameB x.s && decide (x.l.length = 0))) := by unfold Sx.rightN; rw [if_neg h1, if_pos h2]
      have q1 : (x.op == 1) = false := by simp [h1]
      have q2 : (x.op == 2) = true := by simp [h2]
      have l1 : (((x.l.length : Nat) : Int) == 0) = decide (x.l.length = 0) := by by_cases h : x.l.length = 0 <;> simp [h]
      have cN := fun wx (hx : ErrR wx) => Name13_any x.s wx hs hx
      have HE := Lib.hid fun (wr : World) (hb : Below (w.alloc (.cells (xC x a c) 43)).heap.size (w.alloc (.cells (xC x a c) 43)) wr) => errR_below hE (x_look hb).2
      generalize decide (x.l.length = 0) = b4 at *
      generalize Lx.nameB x.s = b3 at *
      have HC := Lib.hid cN
      clear cN
      dsimp only [valV, Vl.no] at e2
      cases hvn : decide (x.v = Vl.no)
      all_goals
        dsimp only [Vl.no] at hvn
        rw [hvn] at e2
        rw [show decide (x.v = Vl.no) = _ from hvn] at hR
      · have HR := Lib.hid hR
        clear hR
        go_enter Tryz.func45, Tryz.ntmps45
        go_wp2_with fail
        go_ret
        exact ⟨ret_bool (by rw [HR.out]; rfl), hB0.out⟩
      · cases b3 <;> cases b4 <;>
        · have HR := Lib.hid hR
          clear hR
          go_enter Tryz.func45, Tryz.ntmps45
          go_wp2_with ((go_at_call 68; refine (HC.out _ (HE.out _ (Below.refl _ _))).mono ?_; rintro e w1 ⟨rfl, hb⟩; obtain ⟨⟨k0, k1, k2, k3, k4, k5⟩, hBw⟩ := HL.out w1 hb; simp only [Nat.zero_add] at k0 k1 k2 k3 k4 k5; have HBw := Lib.hid hBw; clear hBw hb))
          go_ret
          exact ⟨ret_bool (by rw [HR.out]; rfl), HBw.out⟩
    · have hR : Sx.rightN x = (decide (0 < cntP x.op) && (decide ((x.l.length : Int) = cntP x.op) && (decide (x.v = Vl.no) && decide (x.s = Vl.mt)))) := by unfold Sx.rightN; rw [if_neg h1, if_neg h2]
      have q1 : (x.op == 1) = false := by simp [h1]
      have q2 : (x.op == 2) = false := by simp [h2]
      have HC := Lib.hid fun wx => count14_any x.op wx
      generalize cntP x.op = CN at *
      have l1 : (((x.l.length : Nat) : Int) == CN) = decide ((x.l.length : Int) = CN) := by by_cases h : (x.l.length : Int) = CN <;> simp [h]
      generalize decide ((x.l.length : Int) = CN) = b2 at *
      generalize decide (x.s = Vl.mt) = b4 at *
      dsimp only [valV, Vl.no] at e2
      by_cases h0 : 0 < CN
      · rw [decide_eq_true h0, Bool.true_and] at hR
        cases hvn : decide (x.v = Vl.no)
        all_goals
          dsimp only [Vl.no] at hvn
          rw [hvn] at e2
          rw [show decide (x.v = Vl.no) = _ from hvn] at hR
        all_goals
          cases b2 <;> cases b4 <;>
          · have HR := Lib.hid hR
            clear hR
            go_enter Tryz.func45, Tryz.ntmps45
            go_wp2_with ((go_at_call 69; refine (HC.out _).mono ?_; rintro e w1 ⟨rfl, rfl⟩))
            go_ret
            exact ⟨ret_bool (by rw [HR.out]; rfl), hB0.out⟩
      · rw [decide_eq_false h0, Bool.false_and] at hR
        have HR := Lib.hid hR
        clear hR
        go_enter Tryz.func45, Tryz.ntmps45
        go_wp2_with ((go_at_call 69; refine (HC.out _).mono ?_; rintro e w1 ⟨rfl, rfl⟩))
        go_ret
        exact ⟨ret_bool (by rw [HR.out]), hB0.out⟩
end Go.Proofs.YtmkllibfblacfaaGreatDoor

/-
  Layer 14, the program's: an expression in memory, as all calls want it; Check.
-/
namespace Go.Proofs.YtmkllibfblacfaaGreatDoor
open Go.RowKit Go.Shelf
open Sx (X)
attribute [local go_sem] Oper.semAt_some
mutual
/-- an expression in memory, below block m: no cell of it is frozen, and its rows bear no mark (but where mk) -/
def XOk (w : World) (m : Nat) (mk : Prop) : X → Option Addr → Prop
  | .mk _ _ _ l, ad => l = [] ∨ ∃ b o, ad = some ⟨b, o, none⟩ ∧ b < m ∧ (mk ∨ ∃ cs T, w.heap[b]? = some (.cells cs T (0, 0))) ∧ LOk w m mk l b o
def LOk (w : World) (m : Nat) (mk : Prop) : List X → Nat → Nat → Prop
  | [], _, _ => True
  | x :: r, b, o => w.frozen? ⟨b, o, none⟩ = false ∧ (∃ a c, Cells6 w b o x a c ∧ XOk w m mk x a) ∧ LOk w m mk r b (o + 6)
end
mutual
theorem xok_at {w : World} {m : Nat} {mk : Prop} : ∀ (x : X) (ad : Option Addr), XOk w m mk x ad → XAt w (fun j => j < m) x ad
  | .mk _ _ _ l, ad, h => by
    rw [XOk] at h; rw [XAt]
    rcases h with h | ⟨b, o, h1, h2, _, h3⟩
    · exact .inl h
    · exact .inr ⟨b, o, h1, h2, lok_at l b o h3⟩
theorem lok_at {w : World} {m : Nat} {mk : Prop} : ∀ (l : List X) (b o : Nat), LOk w m mk l b o → LAt w (fun j => j < m) l b o
  | [], _, _, _ => by rw [LAt]; trivial
  | x :: r, b, o, h => by
    rw [LOk] at h; rw [LAt]
    obtain ⟨_, ⟨a, c, h1, h2⟩, h3⟩ := h
    exact ⟨⟨a, c, h1, xok_at x a h2⟩, lok_at r b (o + 6) h3⟩
end
theorem lok_get {w : World} {m : Nat} {mk : Prop} : ∀ (l : List X) (b o : Nat), LOk w m mk l b o → ∀ i (h : i < l.length), w.frozen? ⟨b, o + i * 6, none⟩ = false ∧ ∃ a c, Cells6 w b (o + i * 6) l[i] a c ∧ XOk w m mk l[i] a
  | [], _, _, _, i, h => absurd h (Nat.not_lt_zero _)
  | x :: r, b, o, hk, 0, _ => by
    rw [LOk] at hk
    simp only [Nat.zero_mul, Nat.add_zero, List.getElem_cons_zero]
    exact ⟨hk.1, hk.2.1⟩
  | x :: r, b, o, hk, i + 1, h => by
    rw [LOk] at hk
    have := lok_get r b (o + 6) hk.2.2 i (by simpa using h)
    rw [show o + (i + 1) * 6 = o + 6 + i * 6 by omega]
    exact this
theorem cells6_a {w : World} {b o : Nat} {x : X} {a a' : Option Addr} {c c' : Nat} (h : Cells6 w b o x a c) (h' : Cells6 w b o x a' c') : a = a' := by
  have e := Option.some.inj (h.2.2.2.2.2.symm.trans h'.2.2.2.2.2)
  injection e
theorem xok_get {w : World} {m : Nat} {mk : Prop} {x : X} {b o : Nat} (h : XOk w m mk x (some ⟨b, o, none⟩)) (i : Nat) (hi : i < x.l.length) : b < m ∧ (mk ∨ ∃ cs T, w.heap[b]? = some (.cells cs T (0, 0))) ∧ w.frozen? ⟨b, o + i * 6, none⟩ = false ∧ ∃ a c, Cells6 w b (o + i * 6) x.l[i] a c ∧ XOk w m mk x.l[i] a := by
  obtain ⟨op, v, s, l⟩ := x
  rw [XOk] at h
  rcases h with h | ⟨b', o', h1, h2, h3, h4⟩
  · subst h; exact absurd hi (Nat.not_lt_zero _)
  · cases h1
    have := lok_get l b o h4 i hi
    exact ⟨h2, h3, this.1, this.2⟩
namespace Sx
mutual
/-- its texts are short, its lists and numbers as they may be -/
def fine : X → Prop
  | .mk op v s l => okX (.mk op v s l) ∧ s.size ≤ 1000000 ∧ fineL l
def fineL : List X → Prop
  | [] => True
  | x :: r => fine x ∧ fineL r
end
theorem fineL_at : ∀ (l : List X), fineL l → ∀ i (h : i < l.length), fine l[i]
  | [], _, i, h => absurd h (Nat.not_lt_zero _)
  | x :: r, hk, 0, _ => by rw [fineL] at hk; exact hk.1
  | x :: r, hk, i + 1, h => by rw [fineL] at hk; exact fineL_at r hk.2 i (by simpa using h)
theorem fine_is {x : X} (h : fine x) : okX x ∧ x.s.size ≤ 1000000 ∧ ∀ i (hi : i < x.l.length), fine x.l[i] := by
  obtain ⟨op, v, s, l⟩ := x
  rw [fine] at h
  exact ⟨h.1, h.2.1, fun i hi => fineL_at l h.2.2 i hi⟩
theorem fine_no : fine no := by
  unfold no
  rw [fine, okX, okL, fineL]
  exact ⟨⟨⟨by decide, by decide⟩, Nat.zero_le _, Nat.zero_le _, Nat.zero_le _, trivial⟩, Nat.zero_le _, trivial⟩
end Sx
/-- what the function that goes through an expression knows of each part -/
abbrev Gd14 (w : World) (m : Nat) (mk : Prop) (y : X) (ad : Option Addr) : Prop := XOk w m mk y ad ∧ Sx.fine y
theorem gd14 {w : World} {m : Nat} {mk : Prop} : ∀ y ay, Gd14 w m mk y ay → y.l.length ≤ maxLen ∧ ∀ (i : Nat) (h : i < y.l.length) b o az cz, ay = some ⟨b, o, none⟩ → Cells6 w b (o + i * 6) y.l[i] az cz → Gd14 w m mk y.l[i] az ∧ w.frozen? ⟨b, o + i * 6, none⟩ = false ∧ (mk ∨ ∃ cs T, w.heap[b]? = some (.cells cs T (0, 0))) := by
  intro y ay h
  have hf := Sx.fine_is h.2
  refine ⟨(Sx.okX_is hf.1).2.2.2, fun i hi b o az cz e hc => ?_⟩
  subst e
  obtain ⟨_, h3, h4, a', c', h5, h6⟩ := xok_get h.1 i hi
  have e2 := cells6_a hc h5
  subst e2
  exact ⟨⟨h6, hf.2.2 i hi⟩, h4, h3⟩
theorem kpP_only {F : Nat → Prop} {m bx B2 : Nat} {W W' : World} (ho : Only F W W') (hF : ∀ k, F k → m ≤ k ∧ k ≠ bx ∧ ∃ cs T fz, W.heap[k]? = some (.cells cs T fz) ∧ T ≠ 119) : KpP m bx B2 W W' := by
  refine ⟨ho.size, fun j hj hl => ho.block j hl fun h => ?_, fun j cs fz hc => ho.block j (Array.getElem?_eq_some_iff.1 hc).1 fun h => ?_, fun j o _ hoj hn => (ho.block j (Array.getElem?_eq_some_iff.1 hoj).1 fun h => ?_).trans hoj⟩
  · have := hF j h
    rcases hj with hj | hj
    · omega
    · exact this.2.1 hj
  · obtain ⟨_, _, cs', T, fz', h1, h2⟩ := hF j h
    rw [hc] at h1
    injection h1 with h1
    injection h1 with _ h1
    exact h2 h1.symm
  · obtain ⟨_, _, cs', T, fz', h1, h2⟩ := hF j h
    rw [hoj] at h1
    injection h1 with h1
    rw [h1] at hn
    cases hn
theorem kpP_put {m bx B2 l : Nat} {W : World} {o : Obj} (o' : Obj) (hl : m ≤ l) (hb : l ≠ bx) (h2 : l < B2) (ho : W.heap[l]? = some o) (hc : o.isCells = false) : KpP m bx B2 W (W.putObj l o') := by
  have hp := putObj_only W l o'
  refine ⟨hp.size, fun j hj hlt => hp.block j hlt fun h => ?_, fun j cs fz hj => hp.block j (Array.getElem?_eq_some_iff.1 hj).1 fun h => ?_, fun j o2 hB hj hn => (hp.block j (Array.getElem?_eq_some_iff.1 hj).1 fun h => ?_).trans hj⟩
  · have e : j = l := h
    rcases hj with hj | hj <;> omega
  · have e : j = l := h
    subst e
    rw [ho] at hj
    injection hj with hj
    rw [hj] at hc
    cases hc
  · have e : j = l := h
    omega
theorem survR_and {B T : Nat} {J J' : World → Prop} (h : SurvR B T J) (h' : SurvR B T J') : SurvR B T (fun W => J W ∧ J' W) := fun A A' row hJ hg hr => ⟨h A A' row hJ.1 hg hr, h' A A' row hJ.2 hg hr⟩
theorem survR_const {B T : Nat} (p : Prop) : SurvR B T (fun _ => p) := fun _ _ _ h _ _ => h
theorem survR_row {B T g E : Nat} {l : List Value} (hg : g < B) : SurvR B T (fun W => RowV W g E l) := fun A A' row hJ hgr hr =>
  (hgr.block g (rowV_lt hJ) fun e => by have := (hr g e.symm).1; omega).trans hJ
theorem survR_below {B T N : Nat} {w : World} (hN : N ≤ B) (hw : N ≤ w.heap.size) : SurvR B T (fun W => Below N w W) := fun A A' row hJ hgr hr =>
  hJ.trans ⟨hgr.os, hgr.tape, hgr.output, hgr.size, fun k hk => hgr.block k (by have := hJ.size; omega) fun e => by have := (hr k e.symm).1; omega⟩
end Go.Proofs.YtmkllibfblacfaaGreatDoor

/-
  Layer 14, the program's: Check.
-/
namespace Go.Proofs.YtmkllibfblacfaaGreatDoor
open Go.RowKit Go.Shelf
open Sx (X)
attribute [local go_sem] Oper.semAt_some
/-- may each of these be? -/
def Sx.allR (l : List (X × Nat)) : Bool := l.all fun p => Sx.rightN p.1
theorem Sx.allR_app (l l' : List (X × Nat)) : Sx.allR (l ++ l') = (Sx.allR l && Sx.allR l') := List.all_append
theorem results_errno15 {fn : Func} {q : Tmp} (h : fn.results = #[.cell q 22]) (tmps : Array Value) (w : World) (g : Nat) (n : Int) (hp : tmps.getD q undef = .pointer (some ⟨g, 0, none⟩)) (hr : RowV w g 22 [.int .i64 n]) :
    (results fn tmps).run Tryz.prog w = .ok (.int .i64 n) w := by
  have hl : (loadVar 22 ⟨g, 0, none⟩).run Tryz.prog w = .ok (.int .i64 n) w := by
    have c := rowV_cell hr 0
    simp only [List.getElem?_cons_zero] at c
    go_simp
  have hp' : tmps[q]?.getD undef = .pointer (some ⟨g, 0, none⟩) := by simpa using hp
  simp [results, h, hp', asAddr, hl]
theorem rowV_put15 {W : World} {g T D : Nat} {l : List Value} (h : RowV W g T l) (hD : g ≠ D) (o' : Obj) : RowV (W.putObj D o') g T l := rowV_only h (putObj_only W D o') fun e => hD e
/-- a store into a row of one cell -/
theorem rowV_set15 {W : World} {g T : Nat} {u : Value} (h : RowV W g T [u]) (v : Value) : RowV (W.setCell ⟨g, 0, none⟩ v) g T [v] := rowV_stored h 0 v
set_option maxRecDepth 100000 in
theorem parts14_any (x : X) (a : Option Addr) (c : Nat) (w : World) : Calls Tryz.prog 44 #[xV x a c] w fun e w' => e = .returned (.func (.func 67) #[] #[.pointer (some ⟨w.heap.size, 0, none⟩)]) ∧ w' = w.alloc (.cells (xC x a c) 43) := by
  go_enter Tryz.func44, Tryz.ntmps44
  go_wp2_with fail
  go_ret
  exact ⟨rfl, rfl⟩
set_option maxRecDepth 100000 in
set_option maxHeartbeats 12800000 in
theorem check14_any {mk : Prop} (x : X) (a : Option Addr) (c : Nat) (w : World) (hX : XOk w w.heap.size mk x a) (hf : Sx.fine x) (hd : Sx.deep x ≤ 1000) (hE : ErrR w) :
    Calls Tryz.prog 27 #[xV x a c] w fun e w' => ∃ r : Int, e = .returned (.int .i64 r) ∧ Below w.heap.size w w' ∧ ((r = 0 ∧ Sx.allR (Sx.po x 1) = true) ∨ (r = 2 ∧ (Sx.allR (Sx.po x 1) = false ∨ mk))) := by
  have cP := fun wx => parts14_any x a c wx
  have HC := Lib.hid cP
  clear cP
  have hB0 := Lib.hid (x_new x a c w).2.1
  have HL := Lib.hid fun (wr : World) (hb : Below (w.alloc (.cells (xC x a c) 43)).heap.size (w.alloc (.cells (xC x a c) 43)) wr) => x_look hb
  obtain ⟨⟨c0, c1, c2, c3, c4, c5⟩, _⟩ := HL.out _ (Below.refl _ _)
  simp only [Nat.zero_add] at c0 c1 c2 c3 c4 c5
  refine (callsIn_wide (n := 6)).1 ?_
  refine callsIn_of_wp_marks Tryz.func27 rfl trivial ?_ rfl
  simp only [Tryz.ntmps27, List.size_toArray, List.length_cons, List.length_nil, Nat.reduceAdd, Nat.reduceSub, Array.replicate_succ, Array.replicate_zero, List.push_toArray, List.append_toArray, List.nil_append, List.cons_append]
  gi_wp2_with (refine ⟨trivial, ?_⟩; gi_at_call 44; refine (callsIn_wide.2 (HC.out _)).mono ?_; rintro e w1 ⟨rfl, rfl⟩)
  obtain ⟨W3, hW3⟩ : ∃ W3, ((w.alloc (.cells (xC x a c) 43)).alloc (.cells #[.int .i64 0] 22)).alloc (.cells (xC x a c) 43) = W3 := ⟨_, rfl⟩
  have hB3 : Below w.heap.size w W3 := by
    rw [← hW3]
    exact (((Below.refl w.heap.size w).alloc (Nat.le_refl _) _).alloc (by simp) _).alloc (by simp; omega) _
  have hs3 : W3.heap.size = w.heap.size + 3 := by rw [← hW3]; simp
  have hr1 : RowV W3 (w.heap.size + 1) 22 [.int .i64 0] := by
    rw [← hW3]
    have := rowV_new (w.alloc (.cells (xC x a c) 43)) 22 [.int .i64 0]
    rw [World.size_alloc] at this
    exact rowV_alloc this _
  have hr2 : RowV W3 (w.heap.size + 2) 43 (xC x a c).toList := by
    rw [← hW3]
    have := rowV_new ((w.alloc (.cells (xC x a c) 43)).alloc (.cells #[.int .i64 0] 22)) 43 (xC x a c).toList
    rw [World.size_alloc, World.size_alloc] at this
    exact this
  rw [hW3]
  clear c0 c1 c2 c3 c4 c5
  have hSide : Side w W3 w.heap.size (w.heap.size + 2) x a c := ⟨fun j hj => hB3.block j hj, hr2, by omega, Nat.le_refl _⟩
  generalize hN : w.heap.size = N at *
  obtain ⟨I, eI⟩ : ∃ I : List (PA w N (Gd14 w N mk) mk) → World → Prop, I = fun pre W => (RowV W (N + 1) 22 [.int .i64 0] ∧ Below N w W) ∧ Sx.allR (pre.map pxd) = true := ⟨_, rfl⟩
  obtain ⟨Ix, eIx⟩ : ∃ I : List (PA w N (Gd14 w N mk) mk) → World → Prop, I = fun pre W => (RowV W (N + 1) 22 [.int .i64 2] ∧ Below N w W) ∧ Sx.allR (pre.map pxd) = false := ⟨_, rfl⟩
  replace eI := Lib.hid eI
  replace eIx := Lib.hid eIx
  refine wpIn_hands (n := 6) (gf := 67) (lb := #[.pointer (some ⟨N + 1 + 1, 0, none⟩)]) rfl (enters_of Tryz.func67 (by kernel_rfl) rfl)
    (parts14_hands (n := 6 - 1) (by omega) (B2 := W3.heap.size + 2) (Gd := Gd14 w N mk) (mk := mk) (xok_at x a hX) ⟨hX, hf⟩ gd14 hd hSide) (Below.refl _ _) (fun _ => rfl) kpP_t
    (fun W o o' h1 h2 => kpP_put o' (by omega) (by omega) (by omega) h1 h2)
    I Ix (fun s => by rw [eI.out]; exact survR_and (survR_and (survR_row (by omega)) (survR_below (by omega) (by omega))) (survR_const _))
    (fun s => by rw [eIx.out]; exact survR_and (survR_and (survR_row (by omega)) (survR_below (by omega) (by omega))) (survR_const _))
    (by rw [eI.out]; exact ⟨⟨hr1, hB3⟩, rfl⟩) ?round ?done ?stop
  case round =>
    rintro pre ⟨⟨z, az, cz, dz⟩, hz⟩ W hI hlen hsz
    rw [eI.out] at hI
    obtain ⟨⟨hr, hB⟩, hall⟩ := hI
    have hfz : Sx.fine z := by
      rcases hz.1 with h | h
      · exact h.2.2
      · have e : z = Sx.no := h.2
        rw [e]; exact Sx.fine_no
    obtain ⟨hokz, hsmz, _⟩ := Sx.fine_is hfz
    dsimp only [encP, xV, xC]
    have hnb := (x_new z az cz W).2
    have hnr := (x_new z az cz W).1
    dsimp only [xC] at hnb hnr
    gi_wp2
    refine ⟨⟨hnb.1.block _ (by omega), hnb.1.block _ (by omega)⟩, kpP_below hnb.1, fun W2 ho2 hI2 => ?_⟩
    have hr2 := rowV_only hnr ho2 (by omega)
    have hs2 := ho2.size
    rw [eI.out] at hI2
    obtain ⟨⟨hrr, hBB⟩, -⟩ := hI2 pre ⟨⟨rowV_alloc hr _, hB.alloc (by have := hB.size; omega) _⟩, hall⟩
    clear hI2
    obtain ⟨c0, c1, c2, c3, c4, c5⟩ := x_cells (x := z) (a := az) (c := cz) hr2
    simp only [Nat.zero_add] at c0 c1 c2 c3 c4 c5
    have fr := rowV_frozen hrr 0
    have hE2 : ErrR W2 := errR_below hE (by rw [hN]; exact hBB)
    have HR := Lib.hid (right14_any z hokz hsmz az cz W2 hE2)
    rw [hnb.2] at hs2
    have hsnoc : Sx.allR ((pre ++ [(⟨(z, az, cz, dz), hz⟩ : PA w N (Gd14 w N mk) mk)]).map pxd) = Sx.rightN z := by
      rw [List.map_append, Sx.allR_app, hall, Bool.true_and]
      exact Bool.and_true _
    generalize Sx.rightN z = rz at *
    have H2 := Lib.hid (And.intro hrr (And.intro hBB hr2))
    clear hrr hBB hr2 hnb hnr ho2 hr
    cases rz with
    | true =>
      gi_wp2_with (refine ⟨trivial, ?_⟩; gi_at_call 45; refine (CallsIn.inRound _ (callsIn_wide.2 HR.out)).mono ?_; rintro e w5 ⟨rfl, hb5⟩)
      rw [eI.out]
      exact ⟨⟨hb5.block _ (by omega), hb5.block _ (by omega)⟩, kpP_below hb5, ⟨rowV_below H2.out.1 hb5 (rowV_lt H2.out.1), H2.out.2.1.trans (hb5.mono (by have := H2.out.2.1.size; omega))⟩, hsnoc⟩
    | false =>
      gi_wp2_with (refine ⟨trivial, ?_⟩; gi_at_call 45; refine (CallsIn.inRound _ (callsIn_wide.2 HR.out)).mono ?_; rintro e w5 ⟨rfl, hb5⟩; have r5 := rowV_below H2.out.1 hb5 (rowV_lt H2.out.1); have f5 := rowV_frozen r5 0; have cr5 := rowV_cell r5 0; simp only [List.getElem?_cons_zero] at cr5)
      have ho := (Only.refl (fun k => k = N + 1) w5).setCell (g := N + 1) (i := 0) (fun _ => rfl) (.int .i64 2)
      have hs5 := hb5.size
      rw [eIx.out]
      refine ⟨⟨(ho.block _ (by omega) (by omega)).trans (hb5.block _ (by omega)), (ho.block _ (by omega) (by omega)).trans (hb5.block _ (by omega))⟩, kpP_t (kpP_below hb5) (kpP_only ho (fun k hk => ⟨by omega, by omega, by rw [show k = N + 1 from hk]; exact ⟨_, _, _, r5, by decide⟩⟩)), ⟨rowV_set15 r5 _, (H2.out.2.1.trans (hb5.mono (by have := H2.out.2.1.size; omega))).trans (ho.below (fun k _ hk => by omega) (by have := H2.out.2.1.size; omega))⟩, hsnoc⟩
  case done =>
    rintro xs W hSx hI hK
    rw [eI.out] at hI
    obtain ⟨⟨hr, hB⟩, hall⟩ := hI
    rw [hs3] at hK
    have fr := rowV_frozen hr 0
    have cr := rowV_cell hr 0
    simp only [List.getElem?_cons_zero] at cr
    have hsW : N ≤ W.heap.size := by have := hB.size; omega
    gi_wp2
    have ho := (Only.refl (fun k => k = N + 1) W).setCell (g := N + 1) (i := 0) (fun _ => rfl) (.int .i64 0)
    have hK2 := (ho.block (N + 3) (Array.getElem?_eq_some_iff.1 hK).1 (by omega)).trans hK
    refine ⟨by simp, .inl ⟨_, _, rfl, run_takeDeferred hK2, ?_⟩⟩
    refine ⟨_, results_errno15 rfl _ _ (N + 1) _ rfl (rowV_put15 (rowV_set15 hr _) (by omega) _), 0, rfl, ?_, ?_⟩
    · try rw [hN]
      exact (hB.trans (ho.below (fun k _ hk => by omega) hsW)).trans ((putObj_only _ _ _).below (fun k _ hk => by omega) (by have := ho.size; omega))
    · rcases hSx with hSx | ⟨hmk, pre, d, rest, h1, h2⟩
      · rw [hSx] at hall; exact .inl ⟨rfl, hall⟩
      · rw [h2, Sx.allR_app] at hall
        have : Sx.rightN Sx.no = false := by decide
        rw [show Sx.allR [(Sx.no, d)] = false by unfold Sx.allR; simp [this], Bool.and_false] at hall
        cases hall
  case stop =>
    rintro pre W hSp hI hK
    rw [eIx.out] at hI
    obtain ⟨⟨hr, hB⟩, hall⟩ := hI
    rw [hs3] at hK
    have hsW : N ≤ W.heap.size := by have := hB.size; omega
    gi_wp2
    refine ⟨by simp, .inl ⟨_, _, rfl, run_takeDeferred hK, ?_⟩⟩
    refine ⟨_, results_errno15 rfl _ _ (N + 1) _ rfl (rowV_put15 hr (by omega) _), 2, rfl, ?_, .inr ⟨rfl, ?_⟩⟩
    · try rw [hN]
      exact hB.trans ((putObj_only _ _ _).below (fun k _ hk => by omega) (by omega))
    · rcases hSp with ⟨rest, h1⟩ | ⟨hmk, _⟩
      · refine .inl ?_
        rw [← h1, Sx.allR_app, hall, Bool.false_and]
      · exact .inr hmk
end Go.Proofs.YtmkllibfblacfaaGreatDoor

/-
  Layer 14, the program's: Deep.
-/
namespace Go.Proofs.YtmkllibfblacfaaGreatDoor
open Go.RowKit Go.Shelf
open Sx (X)
attribute [local go_sem] Oper.semAt_some
namespace Sx
end Sx
end Go.Proofs.YtmkllibfblacfaaGreatDoor

/-
  Layer 14, the program's: the function that hands out an expression's names, each as often as it stands.
-/
namespace Go.Proofs.YtmkllibfblacfaaGreatDoor
open Go.RowKit Go.Shelf
open Sx (X)
attribute [local go_sem] Oper.semAt_some
namespace Sx
end Sx
section
variable {w0 : World} {m : Nat} {mk : Prop}
end
end Go.Proofs.YtmkllibfblacfaaGreatDoor

/-
  A region that draws its order, in a round of a range over a function: by the plain law (QTail), where no operation of it is a 'defer' and the round's post lets nothing be outgrown.
-/
namespace Go.Proofs.YtmkllibfblacfaaGreatDoor
open Go.RowKit
def noDefer (l : List Oper) : Bool := l.all fun o => match o.op with | .defer _ => false | _ => true
section
variable {P : Program} {ops : Array Oper} {md : Region.Mode} {Q : Exit → Act → World → Prop} {r n : Nat}
theorem stepsIn_round {m m' : Machine} (h : Go.Steps P m m') : StepsIn (Machine.fenced P (Fence.wide.inRound r)) P m m' := stepsIn_wide.2 h
theorem wpIn_of_wp {o : Oper} {a : Act} {w : World} {K K' : Act → World → Prop} (hd : ∀ c, o.op ≠ .defer c) (hK : ∀ a w, K a w → K' a w) (h : o.wp P a w K Q) : o.wpIn (Fence.wide.inRound r) n P a w K' Q := by
  unfold Oper.wpIn
  refine ⟨fun _ _ => trivial, ?_⟩
  rw [Fence.inRound_round, Oper.semAt_some _ _ _ hd]
  unfold Oper.wp at h
  have hdep : (Fence.wide.inRound r).depth.isSome = true → 1 ≤ n := fun h => by cases h
  generalize (execOp a.eval o).run P w = res at *
  cases res with
  | ok x w' =>
    cases x with
    | value v => exact hK _ _ h
    | skip => exact hK _ _ h
    | defer d => exact hK _ _ h
    | enter f args =>
      refine ⟨hdep, CallsIn.inRound r (callsIn_wide.2 (Calls.mono h fun e w'' he => ?_))⟩
      cases e with
      | returned v => exact hK _ _ he
      | panicked c => exact he
      | outgrown => exact he
    | row row args =>
      refine ⟨hdep, fun c cs _ => ?_⟩
      obtain ⟨v, w'', hR, hs⟩ := (show Rows P row args w' _ from h) c cs
      exact ⟨v, w'', hK _ _ hR, stepsIn_round hs⟩
    | _ => exact False.elim h
  | halt x w' =>
    cases x <;> first | exact h | exact False.elim h
theorem wpOpIn_of_wpOp {i : Nat} {a : Act} {w : World} {K K' : Act → World → Prop} (hd : noDefer ops.toList = true) (hNo : ∀ a w, ¬ Q .outgrown a w) (hK : ∀ a w, K a w → K' a w) (h : wpOp P ops Q i K a w) : wpOpIn (Fence.wide.inRound r) n P ops Q i K' a w := by
  unfold wpOp at h
  unfold wpOpIn
  cases ho : ops[i]? with
  | none => rw [ho] at h; exact hK _ _ h
  | some o =>
    rw [ho] at h
    dsimp only at h ⊢
    have hmem : o ∈ ops.toList := by
      have := Array.mem_of_getElem? ho
      simpa using this
    have hdo : ∀ c, o.op ≠ .defer c := fun c hc => by
      have := List.all_eq_true.1 hd o hmem
      rw [hc] at this
      cases this
    split
    · rename_i hw
      rw [if_pos hw] at h
      rcases h with h | ⟨_, a', w', h⟩
      · exact wpIn_of_wp hdo hK h
      · exact absurd h (hNo _ _)
    · rename_i hw
      rw [if_neg hw] at h
      exact ⟨fun _ _ => trivial, hK _ _ h⟩
theorem wpAnyIn_of_wpAny (hd : noDefer ops.toList = true) (hNo : ∀ a w, ¬ Q .outgrown a w) : ∀ (fuel : Nat) (listed : Array Bool) (a : Act) (w : World), wpAny P md ops Q fuel listed a w → wpAnyIn (Fence.wide.inRound r) n P md ops Q fuel listed a w
  | 0, _, _, _, h => h
  | fuel + 1, _, _, _, h => ⟨h.1, fun i hi => wpOpIn_of_wpOp hd hNo (fun a' w' => wpAnyIn_of_wpAny hd hNo fuel _ a' w') (h.2 i hi)⟩
variable {C : World → Prop}
theorem wpIn_round_quiet_tail {id : Nat} {a : Act} {w : World} {l : List Oper} (k : Nat) (hm : P.follows .mixedOrders = true) (hB : Region.lexTailB .any l.toArray k = true) (hd : noDefer l = true) (hNo : ∀ a w, ¬ Q .outgrown a w) (hC : C w.drew)
    (h : wpQuiet P l.toArray C (fun a' => ∀ w', C w' → wpList P l.toArray Q (l.drop k) a' w') (l.take k) a) : (Code.region id l.toArray true).wpIn (Fence.wide.inRound r) n P Q a w := by
  simp only [Region.lexTailB, Bool.and_eq_true, decide_eq_true_eq] at hB
  obtain ⟨⟨⟨⟨hsel, hn⟩, hs⟩, hc⟩, hlex⟩ := hB
  have hn' : k < l.length := by simpa using hn
  have htl : (l.take k).length = k := by simp; omega
  have hdl : (l.drop k).length = l.toArray.size - k := by simp
  have inv0 : HeadInv .any l.toArray k (Array.replicate l.toArray.size false) :=
    ⟨by simp, fun j oj _ hl => (by rw [getD_replicate_false] at hl; cases hl), fun t _ ht => getD_in (by simpa using ht) (getD_replicate_false _ _)⟩
  have H := headQ_lex (md := .any) (g := l.toArray.size - k) hsel hs hc hn (l.take k) 0 _ a (fun j hj => by
    have hj' : j < k := by rw [htl] at hj; exact hj
    simp [hj']) (by simpa using htl) inv0 (by rw [htl]; exact hlex) h
  have := headQ_any (Q := Q) (g := l.toArray.size - k) (fun listed a' hL w' hw' => by
    have := wpAny_of_seq (md := .any) (Q' := Q) (l.drop k) k listed a' w' (fun j => by simp [List.getElem?_drop]) (by rw [hdl]; exact hL.1) (hL.2 w' hw')
    rwa [hdl] at this) _ _ _ H w.drew hC
  rw [htl, show k + (l.toArray.size - k) = l.toArray.size by omega] at this
  exact wpIn_region_any hm (wpAnyIn_of_wpAny (by simpa using hd) hNo _ _ _ _ this)
end
section
variable {F : Fence} {n : Nat} {P : Program} {w : World} {ops : Array Oper} {rest : List Oper} {o : Oper} {a : Act} {Q : Exit → Act → World → Prop}
end
end Go.Proofs.YtmkllibfblacfaaGreatDoor

/-
  Plan3's law, in a round of a range over a function.
-/
namespace Go.Proofs.YtmkllibfblacfaaGreatDoor
open Go.RowKit
section
variable {P : Program} {ops : Array Oper} {md : Region.Mode} {S : World → Prop} {Q : Exit → Act → World → Prop}
end
end Go.Proofs.YtmkllibfblacfaaGreatDoor

/-
  Layer 14, the program's: an expression and all within it, in a list.
-/
namespace Go.Proofs.YtmkllibfblacfaaGreatDoor
open Go.RowKit Go.Shelf
open Sx (X)
attribute [local go_sem] Oper.semAt_some
section
variable {B T E k N : Nat}
theorem survR_ex {β : Type} {J : β → World → Prop} (h : ∀ b, SurvR B T (J b)) : SurvR B T (fun W => ∃ b, J b W) := fun A A' row hJ hg hr => by
  obtain ⟨b, hb⟩ := hJ
  exact ⟨b, h b A A' row hb hg hr⟩
end
abbrev pick {w0 : World} {m : Nat} {Gd : X → Option Addr → Prop} {mk : Prop} (y : PA w0 m Gd mk) : Part14 := (y.1.1, y.1.2.1, y.1.2.2.1)
end Go.Proofs.YtmkllibfblacfaaGreatDoor

/-
  A map of string keys and elements of one kind (ints, or nothing), told by a function: what it holds, how many; a lookup, a store.
-/
namespace Go.Proofs.YtmkllibfblacfaaGreatDoor
open Go.RowKit
open Go.Maps (Keyed)
/-- elements as values, and as literals: each in one way -/
structure CodedS {σ : Type} (enc : σ → Value) (lit : σ → Lit) : Prop where
  inj : ∀ a b, enc a = enc b → a = b
  ljn : ∀ a b, lit a = lit b → a = b
noncomputable def encS {σ : Type} (enc : σ → Value) (lit : σ → Lit) (v : Value) : Option (DataW Unit × List MemPlace) := by
  classical exact if h : ∃ s : σ, v = enc s then some (.lit (lit h.choose), []) else none
section
variable {σ : Type} {enc : σ → Value} {lit : σ → Lit}
theorem encS_mk (hc : CodedS enc lit) (s : σ) : encS enc lit (enc s) = some (.lit (lit s), []) := by
  unfold encS
  have hx : ∃ t, enc s = enc t := ⟨s, rfl⟩
  rw [dif_pos hx]
  have := hc.inj _ _ hx.choose_spec
  rw [← this]
theorem encS_inv {v : Value} {z : DataW Unit × List MemPlace} (h : encS enc lit v = some z) : ∃ s, v = enc s ∧ z = (.lit (lit s), []) := by
  unfold encS at h
  split at h
  · rename_i hx
    exact ⟨_, hx.choose_spec, by simpa using h.symm⟩
  · cases h
theorem keyedS : Keyed Tryz.prog 9 := Maps.string_keyed Tryz.underlying9
abbrev kS (s : ByteArray) : Lit := .string s.data.toList
theorem kS_inj {s t : ByteArray} (h : kS s = kS t) : s = t := by
  have h1 : s.data.toList = t.data.toList := by injection h
  cases s; cases t
  simpa using h1
theorem keyS (s : ByteArray) (h : s.size ≤ maxLen) : keyOf Tryz.prog 9 (.string s) = some (kS s) := Go.WideMaps.keyOf_string_mk Tryz.underlying9 h
/-- block b is a map that holds just what f says: n elements -/
def MapS (enc : σ → Value) (lit : σ → Lit) (w : World) (b n : Nat) (f : ByteArray → Option σ) : Prop :=
  ∃ D : DataW Unit, w.ownsMap Tryz.prog 9 (encS enc lit) b (Maps.size D) D ∧ Maps.size D = n ∧ ∀ i, match f i with | none => Maps.has D (kS i) = false | some s => Maps.has D (kS i) = true ∧ ∀ z, D.atKey (kS i) z = .lit (lit s)
variable {w w' : World} {b n : Nat} {f : ByteArray → Option σ}
theorem ownsMap_tightS {P : Program} {t n : Nat} {R : Value → Option (DataW Unit × List MemPlace)} {D : DataW Unit} (h : w.ownsMap P t R b n D) : w.ownsMap P t R b (Maps.size D) D := by
  obtain ⟨es, clock, hb, F, _, hD⟩ := h
  refine ⟨es, clock, hb, F, ?_, hD⟩
  rw [hD]
  have : Maps.size (DataW.map ((es.toList.map (Go.WideElems.rg P t R)).foldr DataW.insert [])) = es.size := by simp [Maps.size, length_sorted]
  rw [this]; exact Nat.le_refl _
theorem mapS_new (w : World) (hf : ∀ i, f i = none) : MapS enc lit (w.alloc (.map #[] 0)) w.heap.size 0 f := by
  refine ⟨.map [], World.ownsMap_made w _ _ _, rfl, fun i => ?_⟩
  rw [hf]; rfl
theorem mapS_lt (h : MapS enc lit w b n f) : b < w.heap.size := by
  obtain ⟨D, h1, _⟩ := h
  exact h1.lt
theorem mapS_block (h : MapS enc lit w b n f) (hb : w'.heap[b]? = w.heap[b]?) : MapS enc lit w' b n f := by
  obtain ⟨D, ⟨es, c, h1, h2⟩, h3⟩ := h
  exact ⟨D, ⟨es, c, hb.trans h1, h2⟩, h3⟩
theorem mapS_only {F : Nat → Prop} (h : MapS enc lit w b n f) (ho : Only F w w') (hn : ¬ F b) : MapS enc lit w' b n f := mapS_block h (ho.block b (mapS_lt h) hn)
theorem mapS_below (h : MapS enc lit w b n f) (hb : Below w.heap.size w w') : MapS enc lit w' b n f := mapS_block h (hb.block b (mapS_lt h))
variable {mt et : TypeId} {z0 : σ}
/-- m[i], with 'ok' -/
theorem mapS_look (hc : CodedS enc lit) (hmt : Tryz.prog.underlying mt = some (.map 9 et)) (hz : ∀ w, (zeroValue et).run Tryz.prog w = .ok (enc z0) w) (h : MapS enc lit w b n f) (i : ByteArray) (hi : i.size ≤ maxLen) :
    (Instr.lookup mt (.map (some b)) (.string i) true).run Tryz.prog w = .ok (.tuple #[enc ((f i).getD z0), .bool (f i).isSome]) w := by
  obtain ⟨D, h1, _, h3⟩ := h
  obtain ⟨v, ps, hr, hv⟩ := h1.look_ok keyedS hmt (hz w) (encS_mk hc z0) (keyS i hi)
  obtain ⟨s, s2, s3⟩ := encS_inv hv
  have h3 := h3 i
  have e3 := (Prod.mk.injEq _ _ _ _ ▸ s3).1
  cases ht : f i with
  | some t =>
    rw [ht] at h3
    obtain ⟨ha, hb⟩ := h3
    rw [hb] at e3
    have : t = s := hc.ljn _ _ (by injection e3)
    rw [hr, ha, s2, ← this]; rfl
  | none =>
    rw [ht] at h3
    rw [Maps.atKey_of_not_has h3] at e3
    have : z0 = s := hc.ljn _ _ (by injection e3)
    rw [hr, h3, s2, ← this]; rfl
/-- m[i] = x -/
theorem mapS_put (hc : CodedS enc lit) (hmt : Tryz.prog.underlying mt = some (.map 9 et)) (h : MapS enc lit w b n f) (hn : n < 1000000) (i : ByteArray) (hi : i.size ≤ maxLen) (s : σ) :
    ∃ w', (Instr.mapUpdate mt (.map (some b)) (.string i) (enc s)).run Tryz.prog w = .ok () w' ∧ MapS enc lit w' b (if (f i).isSome = true then n else n + 1) (fun j => if j = i then some s else f j) ∧ Only (fun j => j = b) w w' := by
  obtain ⟨D, h1, h2, h3⟩ := h
  obtain ⟨w', hr, hm, hg⟩ := h1.update keyedS hmt (by unfold maxLen; omega) (keyS i hi) (encS_mk hc s)
  refine ⟨w', hr, ⟨_, ownsMap_tightS hm, ?_, fun j => ?_⟩, (Only.refl _ w).grown hg fun j _ e => by cases e; rfl⟩
  · rw [Maps.size_put (h1.tidy keyedS), h2]
    have := h3 i
    cases hf : f i with
    | none => rw [hf] at this; rw [if_neg (by rw [this]; simp), if_neg (by simp)]
    | some t => rw [hf] at this; rw [if_pos this.1, if_pos (by simp)]
  by_cases e : j = i
  · subst e
    dsimp only; rw [if_pos rfl]
    exact ⟨Maps.has_put_same h1.isMap (keyedS.key (keyS _ hi)) _, fun z => Maps.atKey_put_same h1.isMap (keyedS.key (keyS _ hi)) _ _⟩
  · dsimp only; rw [if_neg e]
    have hne : kS j ≠ kS i := fun x => e (kS_inj x)
    have := h3 j
    cases hfj : f j with
    | none => rw [hfj] at this; exact (Maps.has_put_other hne _).trans this
    | some t =>
      rw [hfj] at this
      exact ⟨(Maps.has_put_other hne _).trans this.1, fun z => (Maps.atKey_put_other hne _ _).trans (this.2 z)⟩
end
end Go.Proofs.YtmkllibfblacfaaGreatDoor

/-
  Layer 14, the program's: Names.
-/
namespace Go.Proofs.YtmkllibfblacfaaGreatDoor
open Go.RowKit Go.Shelf
open Sx (X)
attribute [local go_sem] Oper.semAt_some
end Go.Proofs.YtmkllibfblacfaaGreatDoor

/-
  Layer 14 (plain): an expression may be where each part may be.
-/
namespace Go.Proofs.YtmkllibfblacfaaGreatDoor
open Sx (X)
namespace Sx
theorem cnt_count (op : Int) (h1 : op ≠ 1) (h2 : op ≠ 2) : (0 < cntP op ∧ count op = cntP op) ∨ (cntP op = 0 ∧ count op = -1) := by
  unfold count cntP
  (repeat' split) <;> omega
theorem allR_cons (p : X × Nat) (l : List (X × Nat)) : allR (p :: l) = (rightN p.1 && allR l) := rfl
theorem right_node (x : X) (r : Bool) (hl : rightL x.l = r) (h0 : x.l = [] → r = true) : right x = (rightN x && r) := by
  rw [right_eq, hl]
  unfold rightN
  by_cases h1 : x.op = 1
  · rw [if_pos h1, if_pos h1, show count x.op = 0 by rw [h1]; rfl]
    by_cases hz : x.l.length = 0
    · have e := h0 (List.length_eq_zero_iff.1 hz)
      rw [e, hz]
      by_cases hv : Vl.right x.v
      · have hn : (decide (x.v.kind ≠ 1) || decide (0 ≤ x.v.n)) = decide (0 ≤ x.v.n) := by
          rcases hv with ⟨hk, hn, _⟩ | ⟨hk, _⟩ | ⟨hk, hn, _⟩ | ⟨hk, hn, _⟩
          · rw [hk, hn]; rfl
          · rw [hk]; rfl
          · rw [hk, hn]; rfl
          · rw [hk]; rcases hn with hn | hn <;> rw [hn] <;> rfl
        rw [hn, decide_eq_true hv]
        cases decide (x.s = Vl.mt) <;> cases decide (0 ≤ x.v.n) <;> rfl
      · rw [decide_eq_false hv]
        cases decide (x.s = Vl.mt) <;> rfl
    · rw [decide_eq_false (show ¬ ((x.l.length : Nat) : Int) = 0 by omega), decide_eq_false hz]
      cases decide (Vl.right x.v) <;> cases decide (0 ≤ x.v.n) <;> cases decide (x.s = Vl.mt) <;> rfl
  · rw [if_neg h1, if_neg h1]
    by_cases h2 : x.op = 2
    · rw [if_pos h2, if_pos h2, show count x.op = 0 by rw [h2]; rfl]
      by_cases hz : x.l.length = 0
      · have e := h0 (List.length_eq_zero_iff.1 hz)
        rw [e, hz]
        cases decide (x.v = Vl.no) <;> cases Lx.nameB x.s <;> rfl
      · rw [decide_eq_false (show ¬ ((x.l.length : Nat) : Int) = 0 by omega), decide_eq_false hz]
        cases decide (x.v = Vl.no) <;> cases Lx.nameB x.s <;> rfl
    · rw [if_neg h2, if_neg h2]
      rcases cnt_count x.op h1 h2 with ⟨h3, h4⟩ | ⟨h3, h4⟩
      · rw [h4, decide_eq_true h3]
        cases decide ((x.l.length : Int) = cntP x.op) <;> cases decide (x.v = Vl.no) <;> cases decide (x.s = Vl.mt) <;> cases r <;> rfl
      · rw [h4, h3, decide_eq_false (show ¬ ((x.l.length : Nat) : Int) = -1 by omega)]
        rfl
mutual
theorem right_parts : ∀ (x : X) (d : Nat), right x = allR (po x d)
  | .mk o v s l, d => by
    rw [po, allR_cons]
    exact right_node (.mk o v s l) _ (rightL_parts l (d + 1)) fun e => by
      have e2 : l = [] := e
      rw [e2, poL]; rfl
theorem rightL_parts : ∀ (l : List X) (d : Nat), rightL l = allR (poL l d)
  | [], d => by rw [poL]; rfl
  | x :: r, d => by
    rw [poL, allR_app, rightL, right_parts x d, rightL_parts r d]
end
end Sx
end Go.Proofs.YtmkllibfblacfaaGreatDoor

/-
  Layer 15 (plain): which kind an expression's value has; by a stack, each part behind its own parts; with a value in place of null.
-/
namespace Go.Proofs.YtmkllibfblacfaaGreatDoor
open Sx (X)
namespace Ty
/-- do two kinds go together? -/
def fits (a b : Int) : Bool := decide (a = b) || (decide (a = 0) || decide (b = 0))
def all (want : Int) (ks : List Int) : Bool := ks.all fun k => fits k want
def some2 (a b : Int) : Int := if a = 0 then b else a
/-- the kind of what an op makes of parts of these kinds, and whether they may be its parts -/
def result (op : Int) (ks : List Int) : Int × Bool :=
  if op = 4 then (if all 1 ks then (1, true) else (2, all 2 ks))
  else if op = 8 ∨ op = 9 then (3, fits (ks.getD 0 0) (ks.getD 1 0))
  else if op = 10 ∨ op = 11 ∨ op = 12 ∨ op = 13 then (3, fits (ks.getD 0 0) (ks.getD 1 0) && !decide (some2 (ks.getD 0 0) (ks.getD 1 0) = 3))
  else if op = 14 ∨ op = 15 then (3, all 3 ks)
  else if op = 16 then (some2 (ks.getD 1 0) (ks.getD 2 0), all 3 [ks.getD 0 0] && fits (ks.getD 1 0) (ks.getD 2 0))
  else (1, all 1 ks)
/-- a column: its name, its kind -/
abbrev Col := ByteArray × Int
/-- the kind of the first column of a name -/
def look (cs : List Col) (s : ByteArray) : Option Int := (cs.find? fun c => decide (c.1 = s)).map (·.2)
/-- the kind, and the error, of an expression whose parts have these kinds -/
def own (cs : List Col) (x : X) (ks : List Int) : Int × Int :=
  if x.op = 1 then (x.v.kind, 0)
  else if x.op = 2 then (match look cs x.s with | some k => (k, 0) | none => (0, 13))
  else if (result x.op ks).2 = true then ((result x.op ks).1, 0) else (0, 14)
mutual
/-- an expression and all within it, each behind its parts -/
def up : X → List X
  | .mk o v s l => upL l ++ [.mk o v s l]
def upL : List X → List X
  | [] => []
  | x :: r => up x ++ upL r
end
theorem up_eq (x : X) : up x = upL x.l ++ [x] := by obtain ⟨_, _, _, _⟩ := x; rw [up]; rfl
theorem upL_drop (l : List X) (i : Nat) (h : i < l.length) : upL (l.drop i) = up l[i] ++ upL (l.drop (i + 1)) := by
  rw [List.drop_eq_getElem_cons h, upL]
/-- one step: the kinds of what is whole already, the last ones those of the parts -/
def stp (cs : List Col) (st : List Int) (y : X) : List Int × Int :=
  if (own cs y (st.drop (st.length - y.l.length))).2 = 0 then (st.take (st.length - y.l.length) ++ [(own cs y (st.drop (st.length - y.l.length))).1], 0) else ([], (own cs y (st.drop (st.length - y.l.length))).2)
/-- through a list -/
def run (cs : List Col) : List X → List Int → List Int × Int
  | [], st => (st, 0)
  | y :: r, st => if (stp cs st y).2 = 0 then run cs r (stp cs st y).1 else ([], (stp cs st y).2)
end Ty
end Go.Proofs.YtmkllibfblacfaaGreatDoor

/-
  Layer 15, the program's: which kinds go together, and what an op makes of its parts' kinds.
-/
namespace Go.Proofs.YtmkllibfblacfaaGreatDoor
open Go.RowKit
namespace Ty
end Ty
end Go.Proofs.YtmkllibfblacfaaGreatDoor

/-
  Layer 15, the program's: what an op makes of its parts' kinds.
-/
namespace Go.Proofs.YtmkllibfblacfaaGreatDoor
open Go.RowKit
namespace Ty
end Ty
end Go.Proofs.YtmkllibfblacfaaGreatDoor

/-
  Layer 15, the program's: the kinds of columns by their names; the kind of an expression whose parts have some kinds.
-/
namespace Go.Proofs.YtmkllibfblacfaaGreatDoor
open Go.RowKit
open Sx (X)
abbrev kEnc (k : Int) : Value := .int .i64 k
abbrev kLit (k : Int) : Lit := .int .i64 k
theorem codedK : CodedS kEnc kLit := ⟨fun a b h => by injection h, fun a b h => by injection h⟩
theorem Ty.look_cons (c : Ty.Col) (cs : List Ty.Col) : Ty.look (c :: cs) = fun s => if s = c.1 then some c.2 else Ty.look cs s := by
  funext s
  unfold Ty.look
  rw [List.find?_cons]
  by_cases h : s = c.1
  · rw [if_pos h, decide_eq_true h.symm]; rfl
  · rw [if_neg h, decide_eq_false fun e => h e.symm]
end Go.Proofs.YtmkllibfblacfaaGreatDoor

/-
  Layer 15, the program's: columns from the last one on (slices.Backward), handed out.
-/
namespace Go.Proofs.YtmkllibfblacfaaGreatDoor
open Go.RowKit Go.Shelf
open Sx (X)
attribute [local go_sem] Oper.semAt_some
/-- a column: its name, its kind, its order's list -/
structure ColV where
  name : ByteArray
  kind : Int
  oa : Option Addr
  on : Nat
  oc : Nat
abbrev colV (c : ColV) : Value := .agg #[.string c.name, .int .i64 c.kind, .slice c.oa c.on c.oc]
/-- a list of columns, read -/
def ReadsC (w : World) (al : Option Addr) (l : List ColV) : Prop := ∀ i (h : i < l.length), ∃ b off, al = some ⟨b, off, none⟩ ∧ w.cell? ⟨b, off + i * 3, none⟩ = some (.string l[i].name) ∧ w.cell? ⟨b, off + i * 3 + 1, none⟩ = some (.int .i64 l[i].kind) ∧ w.cell? ⟨b, off + i * 3 + 2, none⟩ = some (.slice l[i].oa l[i].on l[i].oc)
theorem readsC_below {w w' : World} {al : Option Addr} {l : List ColV} (h : ReadsC w al l) (hb : Below w.heap.size w w') : ReadsC w' al l := fun i hi => by
  obtain ⟨b, off, e, h0, h1, h2⟩ := h i hi
  exact ⟨b, off, e, (hb.cell (World.block_lt_of_cell? _ _ h0)).trans h0, (hb.cell (World.block_lt_of_cell? _ _ h1)).trans h1, (hb.cell (World.block_lt_of_cell? _ _ h2)).trans h2⟩
/-- what a round keeps: the blocks below m, and block bx -/
def KpB (m bx : Nat) (W W' : World) : Prop := W.heap.size ≤ W'.heap.size ∧ ∀ j, (j < m ∨ j = bx) → j < W.heap.size → W'.heap[j]? = W.heap[j]?
theorem kpB_t {m bx : Nat} {A B C : World} (h : KpB m bx A B) (k : KpB m bx B C) : KpB m bx A C :=
  ⟨Nat.le_trans h.1 k.1, fun j hj hl => (k.2 j hj (Nat.lt_of_lt_of_le hl h.1)).trans (h.2 j hj hl)⟩
theorem kpB_below {m bx : Nat} {W W' : World} (hb : Below W.heap.size W W') : KpB m bx W W' := ⟨hb.size, fun j _ hl => hb.block j hl⟩
theorem kpB_only {F : Nat → Prop} {m bx : Nat} {W W' : World} (ho : Only F W W') (hF : ∀ k, F k → m ≤ k ∧ k ≠ bx) : KpB m bx W W' :=
  ⟨ho.size, fun j hj hl => ho.block j hl fun h => by have := hF j h; omega⟩
theorem kpB_put {m bx l : Nat} {W : World} (o' : Obj) (hl : m ≤ l) (hb : l ≠ bx) : KpB m bx W (W.putObj l o') := kpB_only (putObj_only W l o') fun k e => by have e2 : k = l := e; omega
/-- the columns lie as they lay -/
theorem readsC_side {w0 W : World} {m bx : Nat} {al : Option Addr} {l : List ColV} (h : ReadsC w0 al l) (hm : ∀ b off, al = some ⟨b, off, none⟩ → l ≠ [] → b < m) (hW : ∀ j, (j < m ∨ j = bx) → W.heap[j]? = w0.heap[j]?) : ReadsC W al l := fun i hi => by
  obtain ⟨b, off, e, h0, h1, h2⟩ := h i hi
  have hb := hW b (.inl (hm b off e fun e => by subst e; cases hi))
  have hc : ∀ k, W.cell? ⟨b, k, none⟩ = w0.cell? ⟨b, k, none⟩ := fun k => by unfold World.cell?; rw [hb]
  exact ⟨b, off, e, (hc _).trans h0, (hc _).trans h1, (hc _).trans h2⟩
/-- a column and where it stands; its name is not too long -/
abbrev ColA := { y : Nat × ColV // y.2.name.size ≤ 1000000 }
abbrev encB (y : ColA) : Array Value := #[.int .i64 (y.1.1 : Int), colV y.1.2]
set_option maxRecDepth 100000 in
theorem back15_call (al : Option Addr) (n cap : Nat) (w : World) : Calls Tryz.prog 133 #[.slice al n cap] w fun e w' => e = .returned (.func (.func 157) #[] #[.pointer (some ⟨w.heap.size, 0, none⟩)]) ∧ w' = w.alloc (.cells #[.slice al n cap] 35) := by
  go_enter Tryz.func133, Tryz.ntmps133
  go_wp2_with fail
  go_ret
  exact ⟨rfl, rfl⟩
end Go.Proofs.YtmkllibfblacfaaGreatDoor

/-
  Layer 15, the program's: the kinds of columns by their names, made.
-/
namespace Go.Proofs.YtmkllibfblacfaaGreatDoor
open Go.RowKit Go.Shelf
open Sx (X)
attribute [local go_sem] Oper.semAt_some
theorem survR_mapK {B T b n : Nat} {f : ByteArray → Option Int} (hb : b < B) : SurvR B T (fun W => MapS kEnc kLit W b n f) := fun _ _ _ hJ hg hr =>
  mapS_block hJ (hg.block b (mapS_lt hJ) fun e => by have := (hr b e.symm).1; omega)
end Go.Proofs.YtmkllibfblacfaaGreatDoor

/-
  Layer 15, the program's: the function that goes through an expression, each part behind its own parts: the way, and its steps.
-/
namespace Go.Proofs.YtmkllibfblacfaaGreatDoor
open Go.RowKit Go.Shelf
open Sx (X)
attribute [local go_sem] Oper.semAt_some
namespace Upw
/-- what is still to be handed out, of steps from the outermost on -/
def todo : List St14 → List X
  | [] => []
  | t :: r => todo r ++ (Ty.upL (t.x.l.drop t.d) ++ [t.x])
theorem todo_snoc : ∀ (P : List St14) (t : St14), todo (P ++ [t]) = (Ty.upL (t.x.l.drop t.d) ++ [t.x]) ++ todo P
  | [], t => by simp [todo]
  | s :: P, t => by rw [List.cons_append, todo, todo_snoc P t, todo, List.append_assoc]
section
variable {w0 : World} {m bx : Nat} {Gd : X → Option Addr → Prop} {x : X} {a : Option Addr} {c : Nat}
/-- what is handed out -/
abbrev UA (w0 : World) (m : Nat) (Gd : X → Option Addr → Prop) := { y : X × Option Addr × Nat // XAt w0 (fun j => j < m) y.1 y.2.1 ∧ Gd y.1 y.2.1 }
end
section
variable {w0 : World} {m bx B : Nat} {Gd : X → Option Addr → Prop} {x : X} {a : Option Addr} {c : Nat}
variable {J : List (UA w0 m Gd) → World → Prop} {pre : List (UA w0 m Gd)} {P : List St14} {t : St14} {v : Value} {W W' : World}
theorem say_push {b o cy : Nat} {ay : Option Addr} (h : pre.map (·.1.1) ++ todo (P ++ [t]) = Ty.up x) (hd : t.d < t.x.l.length) : pre.map (·.1.1) ++ todo ((P ++ [{ t with d := t.d + 1 }]) ++ [⟨b, o, t.x.l[t.d], ay, cy, 0⟩]) = Ty.up x := by
  rw [todo_snoc, Ty.upL_drop _ _ hd, Ty.up_eq t.x.l[t.d]] at h
  rw [todo_snoc, todo_snoc, List.drop_zero, ← h]
  simp
end
end Upw
end Go.Proofs.YtmkllibfblacfaaGreatDoor

/-
  As Rft, and each round knows what has been handed out so far.
-/
namespace Go.Proofs.YtmkllibfblacfaaGreatDoor
open Go.RowKit
end Go.Proofs.YtmkllibfblacfaaGreatDoor

/-
  As RelyC, in a round of a range over a function.
-/
namespace Go.Proofs.YtmkllibfblacfaaGreatDoor
open Go.RowKit
section
variable {P : Program} {ops : Array Oper} {Q : Exit → Act → World → Prop}
end
end Go.Proofs.YtmkllibfblacfaaGreatDoor

/-
  A scope with two labels, 0 at its head and 1 within, between which the run jumps to and fro: what holds at each jump, with a number that each jump lowers.
-/
namespace Go.Proofs.YtmkllibfblacfaaGreatDoor
open Go.RowKit
/-- by a goto to label 0: J0; to label 1: J1, each at a smaller number; else as Q -/
def Exit2 (n : Nat) (J0 J1 : Nat → Act → World → Prop) (Q : Exit → Act → World → Prop) : Exit → Act → World → Prop
  | .goto l, a, w => ∃ m, m < n ∧ ((l = 0 ∧ J0 m a w) ∨ (l = 1 ∧ J1 m a w))
  | e, a, w => Q e a w
section
variable {P : Program} {a : Act} {w : World} {n : Nat} {J0 J1 : Nat → Act → World → Prop} {Q : Exit → Act → World → Prop}
@[go_sem] theorem exit2_normal : Exit2 n J0 J1 Q .normal a w = Q .normal a w := rfl
@[go_sem] theorem exit2_exit (id : Nat) : Exit2 n J0 J1 Q (.exit id) a w = Q (.exit id) a w := rfl
@[go_sem] theorem exit2_ret : Exit2 n J0 J1 Q .ret a w = Q .ret a w := rfl
@[go_sem] theorem exit2_panic (ch : List PanicEntry) : Exit2 n J0 J1 Q (.panic ch) a w = Q (.panic ch) a w := rfl
end
end Go.Proofs.YtmkllibfblacfaaGreatDoor

/-
  Layer 13: which tokens are right, the document's answer.
-/
namespace Go.Proofs.YtmkllibfblacfaaGreatDoor
open Go.RowKit
end Go.Proofs.YtmkllibfblacfaaGreatDoor

/-
  Layer 13: which tokens are right, the document's answer: marks.
-/
namespace Go.Proofs.YtmkllibfblacfaaGreatDoor
open Go.RowKit
end Go.Proofs.YtmkllibfblacfaaGreatDoor

/-
  Layer 13: a token's text, the document's.
-/
namespace Go.Proofs.YtmkllibfblacfaaGreatDoor
open Go.RowKit
end Go.Proofs.YtmkllibfblacfaaGreatDoor

/-
  Layer 13, the program's: what a token is written as, and its text.
-/
namespace Go.Proofs.YtmkllibfblacfaaGreatDoor
open Go.RowKit
namespace Lx
/-- what a token is written as -/
def wr (t : T) : ByteArray := if t.kind = 1 ∨ t.kind = 4 then t.s else if t.kind = 2 then textB ⟨1, t.n, Vl.mt⟩ else if t.kind = 3 then textB ⟨2, 0, t.s⟩ else Vl.mt
end Lx
end Go.Proofs.YtmkllibfblacfaaGreatDoor

/-
  Layer 13, the program's: a token's text.
-/
namespace Go.Proofs.YtmkllibfblacfaaGreatDoor
open Go.RowKit
end Go.Proofs.YtmkllibfblacfaaGreatDoor

/-
  Layer 13: tokens joined, the document's.
-/
namespace Go.Proofs.YtmkllibfblacfaaGreatDoor
open Go.RowKit
namespace Lx
instance (L : List T) : Decidable (∀ t ∈ L, right t) := inferInstance
end Lx
end Go.Proofs.YtmkllibfblacfaaGreatDoor

/-
  strings.Join: the library's contract at this program's own numbers.
-/
namespace Go.Proofs
open Go.Shelf
namespace YtmkllibfblacfaaGreatDoor
open Go.RowKit
end YtmkllibfblacfaaGreatDoor
end Go.Proofs

/-
  Layer 13, the program's: tokens joined.
-/
namespace Go.Proofs.YtmkllibfblacfaaGreatDoor
open Go.RowKit
namespace Lx
end Lx
end Go.Proofs.YtmkllibfblacfaaGreatDoor

/-
  Layer 13: two lists of tokens compared, the document's.
-/
namespace Go.Proofs.YtmkllibfblacfaaGreatDoor
open Go.RowKit
namespace Lx
/-- what is compared of a token -/
def key (p : Bool) (t : T) : T := if p then t else strip t
end Lx
end Go.Proofs.YtmkllibfblacfaaGreatDoor

/-
  Layer 13: two lists of tokens compared, the document's: walked.
-/
namespace Go.Proofs.YtmkllibfblacfaaGreatDoor
open Go.RowKit
end Go.Proofs.YtmkllibfblacfaaGreatDoor

/-
  Layer 13's laws: lives (the document's example).
-/
namespace Go.Proofs.YtmkllibfblacfaaGreatDoor
open Go.RowKit
end Go.Proofs.YtmkllibfblacfaaGreatDoor

/-
  Layer 13: LexReads walked.
-/
namespace Go.Proofs.YtmkllibfblacfaaGreatDoor
open Go.RowKit
/-- what the walks want of the listed variables -/
def Facts13 (w : World) : Prop := Pow10 w ∧ ErrR w
namespace Lx
end Lx
end Go.Proofs.YtmkllibfblacfaaGreatDoor

/-
  Layer 13's laws: arguments that are tokens, and lists of them, opened.
-/
namespace Go.Proofs.YtmkllibfblacfaaGreatDoor
open Go.ChangeShapes Go.WideShapes Go.RowKit
section
variable {H : Type} {enc : TypeId × Value → H} {w : World} {base : Nat} {spare : Nat → Bool} {held : Bool}
end
end Go.Proofs.YtmkllibfblacfaaGreatDoor

/-
  Layer 13: LexTexts walked.
-/
namespace Go.Proofs.YtmkllibfblacfaaGreatDoor
open Go.RowKit
/-- the loop's token: the last one that was gone by -/
structure LastAt (w : World) (x : Lx.T) (wr : World) : Prop where
  row : RowV wr w.heap.size 78 (tokC x).toList
  fit : x.s.size ≤ 300 ∧ -9223372036854775808 ≤ x.n ∧ x.n ≤ 9223372036854775807
  bel : Below w.heap.size w wr
end Go.Proofs.YtmkllibfblacfaaGreatDoor

/-
  Layer 13: LexBack walked.
-/
namespace Go.Proofs.YtmkllibfblacfaaGreatDoor
open Go.RowKit
end Go.Proofs.YtmkllibfblacfaaGreatDoor

/-
  Layer 13: LexAgain walked.
-/
namespace Go.Proofs.YtmkllibfblacfaaGreatDoor
open Go.RowKit
namespace Lx
end Lx
/-- what the loop over the tokens knows -/
structure AgainAt (s : ByteArray) (L : List Lx.T) (k e : Nat) (w wr : World) : Prop where
  laid : Lx.Laid s.data.toList e (L.drop k)
  bel : Below w.heap.size w wr
end Go.Proofs.YtmkllibfblacfaaGreatDoor

/-
  Layer 12: a value in a cell of its own, and as a result.
-/
namespace Go.Proofs.YtmkllibfblacfaaGreatDoor
open Go.RowKit
theorem info_val : (Tryz.prog.info? 31).map (·.size) = some 3 := by kernel_rfl
/-- a value stored into its box -/
theorem val_put {w : World} {N : Nat} {v : Vl.V} (hr : RowV w N 31 (valC v).toList) (k n : Int) (s : ByteArray) :
    RowV (((w.setCell ⟨N, 0, none⟩ (.int .i64 k)).setCell ⟨N, 1, none⟩ (.int .i64 n)).setCell ⟨N, 2, none⟩ (.string s)) N 31 (valC ⟨k, n, s⟩).toList ∧
    ∀ B, B ≤ N → Below B w (((w.setCell ⟨N, 0, none⟩ (.int .i64 k)).setCell ⟨N, 1, none⟩ (.int .i64 n)).setCell ⟨N, 2, none⟩ (.string s)) :=
  ⟨rowV_stored (rowV_stored (rowV_stored hr 0 (.int .i64 k)) 1 (.int .i64 n)) 2 (.string s),
    fun B hB => (((Below.refl B w).setCell (p := ⟨N, 0, none⟩) hB _).setCell (p := ⟨N, 1, none⟩) hB _).setCell (p := ⟨N, 2, none⟩) hB _⟩
/-- a value's cells, at its box -/
theorem val_cells {w : World} {g : Nat} {v : Vl.V} (h : RowV w g 31 (valC v).toList) :
    w.cell? ⟨g, 0, none⟩ = some (.int .i64 v.kind) ∧ w.cell? ⟨g, 1, none⟩ = some (.int .i64 v.n) ∧ w.cell? ⟨g, 2, none⟩ = some (.string v.s) ∧
    w.frozen? ⟨g, 0, none⟩ = false ∧ w.frozen? ⟨g, 1, none⟩ = false ∧ w.frozen? ⟨g, 2, none⟩ = false :=
  ⟨rowV_cell h 0, rowV_cell h 1, rowV_cell h 2, rowV_frozen h 0, rowV_frozen h 1, rowV_frozen h 2⟩
/-- a new box -/
theorem val_new (v : Vl.V) (w : World) : RowV (w.alloc (.cells (valC v) 31)) w.heap.size 31 (valC v).toList ∧ Below w.heap.size w (w.alloc (.cells (valC v) 31)) ∧ (w.alloc (.cells (valC v) 31)).heap.size = w.heap.size + 1 :=
  ⟨rowV_new w _ [_, _, _], (Below.refl w.heap.size w).alloc (Nat.le_refl _) _, World.size_alloc _ _⟩
end Go.Proofs.YtmkllibfblacfaaGreatDoor

/-
  Layer 12: a value's parts off the front.
-/
namespace Go.Proofs.YtmkllibfblacfaaGreatDoor
open Go.RowKit
namespace Vl
open Oct (numB tN tR tE txt)
def parts (s : ByteArray) : V × ByteArray × Int :=
  if tE s ≠ 0 then (no, mt, tE s) else if tN s = 1 ∨ tN s = 3 then (⟨tN s, tN (tR s), mt⟩, tR (tR s), tE (tR s)) else if tN s = 2 then (⟨tN s, 0, (txt (tR s) 40).1⟩, (txt (tR s) 40).2.1, (txt (tR s) 40).2.2) else (⟨tN s, 0, mt⟩, tR s, 0)
end Vl
end Go.Proofs.YtmkllibfblacfaaGreatDoor

/-
  Layer 12: a value off the front, the program's and the document's.
-/
namespace Go.Proofs.YtmkllibfblacfaaGreatDoor
open Go.RowKit
/-! the document's -/
end Go.Proofs.YtmkllibfblacfaaGreatDoor

/-
  Layer 12: rows of values in memory; a row off the front, the program's and the document's.
-/
namespace Go.Proofs.YtmkllibfblacfaaGreatDoor
open Go.RowKit
abbrev vCl (v : Vl.V) : List Value := [.int .i64 v.kind, .int .i64 v.n, .string v.s]
theorem val_parts : (Tryz.prog.info? 31).map (fun i => (i.zero, i.size, i.bytes)) = some (some (.agg #[.int .i64 0, .int .i64 0, .string ⟨#[]⟩]), 3, 32) := by kernel_rfl
theorem val_elem : ElemOk Tryz.prog 31 3 32 := elemOk_of val_parts rfl (by decide) (by decide)
theorem vCl_one (v : Vl.V) : ∀ u ∈ vCl v, u.oneCell' = true := by intro u hu; simp [vCl] at hu; rcases hu with rfl | rfl | rfl <;> rfl
/-- a slice of values, read -/
def ReadsV (w : World) (a : Option Addr) (L : List Vl.V) : Prop := ∀ i (h : i < L.length), ∃ b off, a = some ⟨b, off, none⟩ ∧ w.cell? ⟨b, off + i * 3, none⟩ = some (.int .i64 L[i].kind) ∧ w.cell? ⟨b, off + i * 3 + 1, none⟩ = some (.int .i64 L[i].n) ∧ w.cell? ⟨b, off + i * 3 + 2, none⟩ = some (.string L[i].s)
theorem readsV_only {F : Nat → Prop} {w w' : World} {a : Option Addr} {L : List Vl.V} (h : ReadsV w a L) (ho : Only F w w') (hn : ∀ b, a = some b → ¬ F b.block) : ReadsV w' a L := by
  intro i hi
  obtain ⟨b, off, h1, h2, h3, h4⟩ := h i hi
  have hF : ¬ F b := hn _ h1
  exact ⟨b, off, h1, (ho.cell (World.block_lt_of_cell? w _ h2) hF).trans h2, (ho.cell (World.block_lt_of_cell? w _ h3) hF).trans h3, (ho.cell (World.block_lt_of_cell? w _ h4) hF).trans h4⟩
theorem readsV_below {w w' : World} {a : Option Addr} {L : List Vl.V} (h : ReadsV w a L) (hb : Below w.heap.size w w') : ReadsV w' a L := readsV_only h (Only.of_none (F := fun _ => False) hb) fun _ _ h => h
end Go.Proofs.YtmkllibfblacfaaGreatDoor

/-
  Layer 12: how two values stand, the program's answer and the document's.
-/
namespace Go.Proofs.YtmkllibfblacfaaGreatDoor
open Go.RowKit
/-- what two boxes leave -/
theorem below_box2v (a b : Vl.V) (w : World) : Below w.heap.size w ((w.alloc (.cells (valC a) 31)).alloc (.cells (valC b) 31)) :=
  ((Below.refl w.heap.size w).alloc (Nat.le_refl _) _).alloc (by rw [World.size_alloc]; omega) _
set_option maxRecDepth 100000 in
set_option maxHeartbeats 3200000 in
theorem compare12_any (a b : Vl.V) (w : World) :
    Calls Tryz.prog 113 #[valV a, valV b] w fun e w' => e = .returned (.int .i64 (Vl.cmp a b)) ∧ Below w.heap.size w w' := by
  have HB := Lib.hid (below_box2v a b w)
  obtain ⟨k, n, s⟩ := a
  obtain ⟨k', n', s'⟩ := b
  by_cases hk : k = k'
  · subst hk
    by_cases hn : n = n'
    · subst hn
      have E := Lib.hid (Vl.cmp_s (a := ⟨k, n, s⟩) (b := ⟨k, n, s'⟩) rfl rfl)
      rw [E.out]
      clear E
      go_enter Tryz.func113, Tryz.ntmps113
      go_wp2_with (go_at_call 145; refine (scompare_any _ _ _).mono ?_; rintro e w1 ⟨rfl, rfl⟩)
      go_ret
      exact ⟨rfl, HB.out⟩
    · have E := Lib.hid (Vl.cmp_n (a := ⟨k, n, s⟩) (b := ⟨k, n', s'⟩) rfl hn)
      rw [E.out]
      have t : (n == n') = false := by simp; exact hn
      clear E
      go_enter Tryz.func113, Tryz.ntmps113
      go_wp2_with (go_at_call 144; refine (icompare_any _ _ _).mono ?_; rintro e w1 ⟨rfl, rfl⟩)
      go_ret
      exact ⟨rfl, HB.out⟩
  · have E := Lib.hid (Vl.cmp_k (a := ⟨k, n, s⟩) (b := ⟨k', n', s'⟩) hk)
    rw [E.out]
    have t : (k == k') = false := by simp; exact hk
    clear E
    go_enter Tryz.func113, Tryz.ntmps113
    go_wp2_with (go_at_call 143; refine (kcompare_any _ _ _).mono ?_; rintro e w1 ⟨rfl, rfl⟩)
    go_ret
    exact ⟨rfl, HB.out⟩
end Go.Proofs.YtmkllibfblacfaaGreatDoor

/-
  Layer 13: what the rows' condition on the listed variables gives the walks; the program's own start meets it.
-/
namespace Go.Proofs.YtmkllibfblacfaaGreatDoor
open Go.RowKit
def laidL : List (String × DataW Unit) := [("math/bits.deBruijn32tab", Rows.laid_math_bits_deBruijn32tab), ("math/bits.deBruijn64tab", Rows.laid_math_bits_deBruijn64tab), ("internal/strconv.uint64pow10", Rows.laid_internal_strconv_uint64pow10), ("strconv.ErrRange", Rows.laid_strconv_ErrRange), ("strconv.ErrSyntax", Rows.laid_strconv_ErrSyntax)]
theorem gPow10 : Tryz.prog.globalNamed "internal/strconv.uint64pow10" = some 5 := by kernel_rfl
theorem tPow10 : (Tryz.prog.globals[5]?).map (·.type) = some 260 := by kernel_rfl
theorem cellsU64 : Tryz.prog.cellsOf 229 = 1 := by kernel_rfl
theorem cells20 : Tryz.prog.cellsOf 260 = 20 := by kernel_rfl
theorem laid_pow10 : (Rows.laid_internal_strconv_uint64pow10 : DataW Unit) = Lib.tabData .u64 Lib.pow10Tab := by kernel_rfl
/-- without the first -/
theorem laidMet_tail {P : Program} {x : String × DataW Unit} {rest : List (String × DataW Unit)} {W : World} (h : laidMet P (x :: rest) W) : laidMet P rest W := by
  obtain ⟨ps, ⟨g', t', cs, fuel, p, q, _, _, _, _, hr, hps⟩, hn, hb⟩ := h
  subst hps
  exact ⟨q, hr, (List.nodup_append.1 hn).2.1, fun b off hm => hb b off (List.mem_append_right _ hm)⟩
theorem door_met (os : Os) (args : Array Value) : laidMetH Tryz.prog laidL ((World.doorLaid Tryz.prog 400 os).forCall (fun _ _ => 0) ⟨#[], args, []⟩).memory :=
  laidMetH_of_parts3 (fuel := 8) (laidMet_of_run' 8 (by kernel_rfl) (by kernel_rfl)) (by kernel_rfl) (by kernel_rfl)
theorem gErrRange : Tryz.prog.globalNamed "strconv.ErrRange" = some 4 := by kernel_rfl
theorem tErrRange : (Tryz.prog.globals[4]?).map (·.type) = some 139 := by kernel_rfl
/-- an error variable that reads as an interface over something holds one -/
theorem trod_iface {P : Program} {H : Type} {enc : TypeId × Value → H} {w : World} {base : Nat} {spare : Nat → Bool} {held : Bool} {fuel : Nat} {t : TypeId} {cs : List Value} {k : Array (String × TypeId)} {ty : String} {d : DataW H} {p : List MemPlace}
    (ht : P.underlying t = some (.interface k)) (h : DataW.trod enc P w base spare held fuel t cs = some (.iface ty d, p)) : ∃ te pe, cs = [.iface te pe] := by
  cases fuel with
  | zero => simp [DataW.trod] at h
  | succ n =>
    unfold DataW.trod at h
    rw [ht] at h
    split at h <;> simp_all
theorem err_of_head {P : Program} {W : World} {name ty : String} {d : DataW Unit} {rest : List (String × DataW Unit)} {g t : Nat} {k : Array (String × TypeId)}
    (hg : P.globalNamed name = some g) (hty : (P.globals[g]?).map (·.type) = some t) (ht : P.underlying t = some (.interface k)) (h : laidMet P ((name, .iface ty d) :: rest) W) : ∃ te pe, W.cell? ⟨g, 0, none⟩ = some (.iface te pe) := by
  obtain ⟨ps, ⟨g', t', cs, fuel, p, q, hg', ht', hvar, hd, _, _⟩, _⟩ := h
  obtain rfl := Option.some.inj (hg.symm.trans hg')
  obtain rfl := Option.some.inj (hty.symm.trans ht')
  obtain ⟨te, pe, hcs⟩ := trod_iface ht hd
  refine ⟨te, pe, ?_⟩
  have := World.var?_cell hg hvar 0
  rw [this]
  obtain ⟨l⟩ := cs
  have hl : l = [.iface te pe] := hcs
  rw [hl]; rfl
/-- the tables and the error, out of the condition -/
theorem facts_of_laid {W : World} (h : laidMetH Tryz.prog laidL W) : Facts13 W := by
  rw [MakeChecks.laidMetH_plain _ _ _ (by kernel_rfl)] at h
  have h3 := laidMet_tail (laidMet_tail h)
  have h4 := laidMet_tail h3
  rw [laid_pow10] at h3
  exact ⟨Lib.tabIs_of_head gPow10 tPow10 Tryz.underlying260 Tryz.underlying229 cellsU64 cells20 h3, err_of_head gErrRange tErrRange Tryz.underlying139 h4⟩
end Go.Proofs.YtmkllibfblacfaaGreatDoor

/-
  Layer 1: what Num answers (the program's and the document's).
-/
namespace Go.Proofs.YtmkllibfblacfaaGreatDoor
open Go.RowKit


end Go.Proofs.YtmkllibfblacfaaGreatDoor

/-
  Layer 1: what Fixed and Text answer (the program's and the document's).
-/
namespace Go.Proofs.YtmkllibfblacfaaGreatDoor
open Go.RowKit

end Go.Proofs.YtmkllibfblacfaaGreatDoor

/-
  Layer 12: a value's bytes, the program's and the document's.
-/
namespace Go.Proofs.YtmkllibfblacfaaGreatDoor
open Go.RowKit
end Go.Proofs.YtmkllibfblacfaaGreatDoor

/-
  Layer 12: a row's bytes, the program's and the document's; whether rows are right, and the same.
-/
namespace Go.Proofs.YtmkllibfblacfaaGreatDoor
open Go.RowKit
/-- a value that an argument may be -/
def Fits (v : Vl.V) : Prop := -9223372036854775808 ≤ v.n ∧ v.n ≤ 9223372036854775807 ∧ v.s.size ≤ maxLen
end Go.Proofs.YtmkllibfblacfaaGreatDoor

/-
  Layer 12: a row's bytes, the program's; whether two rows are the same.
-/
namespace Go.Proofs.YtmkllibfblacfaaGreatDoor
open Go.RowKit
end Go.Proofs.YtmkllibfblacfaaGreatDoor

/-
  Layer 12's laws: arguments that are values, and lists of them, opened.
-/
namespace Go.Proofs.YtmkllibfblacfaaGreatDoor
open Go.ChangeShapes Go.WideShapes Go.RowKit
section
variable {H : Type} {enc : TypeId × Value → H} {w : World} {base : Nat} {spare : Nat → Bool} {held : Bool}
theorem one_cell12 {l : List Value} {k : Nat} (h : k < l.length) : (l.drop k).take 1 = [l[k]] := by
  rw [List.drop_eq_getElem_cons h]; rfl
set_option maxRecDepth 100000 in
theorem val_frame {fuel : Nat} {cs : List Value} {x : DataW H × List MemPlace} (h : DataW.trod enc Tryz.prog w base spare held fuel 31 cs = some x) : ∃ l : Vl.V, cs = (valC l).toList ∧ Fits l := by
  have hC : Tryz.prog.cellsOf 31 = 3 := by kernel_rfl
  obtain ⟨ys, n', _, _, hcl, hyl, hf⟩ := DataW.trod_struct Tryz.underlying31 h
  rw [hC] at hcl
  have hyl4 : ys.length = 3 := hyl
  have g0 : DataW.trod enc Tryz.prog w base spare held n' 29 ((cs.drop 0).take (Tryz.prog.cellsOf 29)) = ys[0]? := hf 0 _ rfl
  have g1 : DataW.trod enc Tryz.prog w base spare held n' 3 ((cs.drop 1).take (Tryz.prog.cellsOf 3)) = ys[1]? := hf 1 _ rfl
  have g2 : DataW.trod enc Tryz.prog w base spare held n' 9 ((cs.drop 2).take (Tryz.prog.cellsOf 9)) = ys[2]? := hf 2 _ rfl
  rw [List.getElem?_eq_getElem (by omega)] at g0 g1 g2
  have kk : Tryz.prog.cellsOf 29 = 1 := by kernel_rfl
  have k0 : Tryz.prog.cellsOf 3 = 1 := by kernel_rfl
  have ks : Tryz.prog.cellsOf 9 = 1 := by kernel_rfl
  rw [kk, one_cell12 (by omega)] at g0
  rw [k0, one_cell12 (by omega)] at g1
  rw [ks, one_cell12 (by omega)] at g2
  obtain ⟨z0, e0, _, _⟩ := DataW.trod_int Tryz.underlying29 g0
  obtain ⟨z1, e1, _, w1⟩ := DataW.trod_int Tryz.underlying3 g1
  obtain ⟨z2, e2, _, w2⟩ := DataW.trod_string Tryz.underlying9 g2
  simp only [List.cons.injEq, and_true] at e0 e1 e2
  refine ⟨⟨z0, z1, z2⟩, ?_, ?_⟩
  · obtain ⟨a, b, c, rfl⟩ : ∃ a b c, cs = [a, b, c] := by
      rcases cs with _ | ⟨a, _ | ⟨b, _ | ⟨c, _ | ⟨e, r⟩⟩⟩⟩
      · exact absurd hcl (by simp)
      · exact absurd hcl (by simp)
      · exact absurd hcl (by simp)
      · exact ⟨a, b, c, rfl⟩
      · exact absurd hcl (by simp)
    simp only [List.getElem_cons_zero, List.getElem_cons_succ] at e0 e1 e2
    rw [e0, e1, e2]
  · exact ⟨(bounds_i64 w1).1, (bounds_i64 w1).2, w2⟩
end
end Go.Proofs.YtmkllibfblacfaaGreatDoor

/-
  The frame behind a drawn region: what it was ahead, with the values that came up laid in.
-/
namespace Go.Proofs.YtmkllibfblacfaaGreatDoor
open Go.RowKit
theorem foldl_sets_size : ∀ (ds : List (Nat × Value)) (t : Array Value), (ds.foldl (fun t p => t.setIfInBounds p.1 p.2) t).size = t.size
  | [], _ => rfl
  | p :: r, t => by rw [List.foldl_cons, foldl_sets_size r, Array.size_setIfInBounds]
theorem foldl_sets_at (A : Nat → Value) (i : Nat) : ∀ (ds : List (Nat × Value)) (t : Array Value), (∀ p ∈ ds, A p.1 = p.2) → i < t.size → (ds.foldl (fun t p => t.setIfInBounds p.1 p.2) t).getD i undef = if ds.any (fun p => p.1 == i) then A i else t.getD i undef
  | [], t, _, _ => rfl
  | p :: r, t, h, hi => by
    rw [List.foldl_cons, foldl_sets_at A i r _ (fun q hq => h q (List.mem_cons_of_mem _ hq)) (by rw [Array.size_setIfInBounds]; exact hi), List.any_cons]
    cases hr : r.any (fun p => p.1 == i) with
    | true => rw [Bool.or_true]; rfl
    | false =>
      rw [Bool.or_false]
      by_cases e : p.1 = i
      · subst e
        rw [beq_self_eq_true, if_pos rfl, if_neg (by simp), h p (List.mem_cons_self ..), Array.getD_eq_getD_getElem?, Array.getElem?_setIfInBounds, if_pos rfl, if_pos hi]
        rfl
      · rw [beq_false_of_ne e, if_neg (by simp), if_neg (by simp), Array.getD_eq_getD_getElem?, Array.getD_eq_getD_getElem?, Array.getElem?_setIfInBounds, if_neg e]
theorem frame_sets {ops : Array Oper} {a0 a : Act} {st : Nat → Option Value} (hf : FrameIs ops a0 st a) (ds : List (Nat × Value)) (hd : (ops.all fun o => match o.dst with | some d => ds.any (fun p => p.1 == d) | none => true) = true)
    (hv : ∀ p ∈ ds, a.tmps.getD p.1 undef = p.2) : a = ⟨ds.foldl (fun t p => t.setIfInBounds p.1 p.2) a0.tmps, a0.defers⟩ := by
  obtain ⟨t, d⟩ := a
  obtain ⟨t0, d0⟩ := a0
  have hdf : d = d0 := hf.defers
  have hsz : t.size = t0.size := hf.size
  subst hdf
  congr 1
  refine Array.ext (by rw [foldl_sets_size]; exact hsz) fun i h1 h2 => ?_
  have e1 : t.getD i undef = t[i] := by simp [Array.getD, h1]
  have h3 : i < t0.size := by omega
  have e2 := foldl_sets_at (fun i => t.getD i undef) i ds t0 hv h3
  have e3 : (ds.foldl (fun t p => t.setIfInBounds p.1 p.2) t0).getD i undef = (ds.foldl (fun t p => t.setIfInBounds p.1 p.2) t0)[i] := by simp [Array.getD, h2]
  rw [← e1, ← e3, e2]
  by_cases hn : ds.any (fun p => p.1 == i) = true
  · rw [if_pos hn]
  · rw [if_neg hn]
    refine frame_stay hf ?_
    rw [Array.all_eq_true_iff_forall_mem] at hd ⊢
    intro o ho
    have := hd o ho
    cases hdst : o.dst with
    | none => rfl
    | some x =>
      rw [hdst] at this
      have hne : x ≠ i := fun e => hn (by subst e; exact this)
      simp [hne]
/-- a box beside a list that the call owns: what an append of one wants -/
theorem box_appG {α : Type} {f : α → List Value} {E k : Nat} {w wr : World} {B : Nat} {v : Value} {l : List α} (T : Nat) (cs : List Value) (h : OwL f E k wr B v l) (hb : Below B w wr) (hB : B ≤ w.heap.size) :
    OwL f E k (wr.alloc (.cells cs.toArray T)) B v l ∧ Below B w (wr.alloc (.cells cs.toArray T)) ∧ B ≤ (wr.alloc (.cells cs.toArray T)).heap.size ∧ RowV (wr.alloc (.cells cs.toArray T)) wr.heap.size T cs := by
  have hs := hb.size
  have hz : (wr.alloc (.cells cs.toArray T)).heap.size = wr.heap.size + 1 := World.size_alloc _ _
  exact ⟨owL_below h ((Below.refl _ _).alloc (Nat.le_refl _) _), hb.alloc (by omega) _, by omega, rowV_new _ _ _⟩
end Go.Proofs.YtmkllibfblacfaaGreatDoor
