/-
  Layer 14, the program's: the function that goes through an expression, walked.
-/
import Derived.Test.YtekahmlppaabjaaGreatDoorZSynPrB
import Derived.LaidEqlPtr
namespace Go.Proofs.YtekahmlppaabjaaGreatDoor
open Go.RowKit Go.Shelf
open Sx (X toksOf isT)
attribute [local go_sem] Oper.semAt_some
theorem expr_ptr : (Tryz.prog.info? 29).map (·.size) = some 6 := by kernel_rfl
/-- two places are compared: they are not one; but where a block is marked the model leaves it open -/
theorem ptr_cmp14 (W : World) (p q : Addr) (hne : p ≠ q) {ca cb : Array Value} {ta tb : TypeId} {fa fb : Nat × Nat} (fp : W.frozen? p = false) (ha : W.heap[p.block]? = some (.cells ca ta fa)) (hb : W.heap[q.block]? = some (.cells cb tb fb)) (sa : ca.size ≠ 0) (sb : cb.size ≠ 0) :
    ∃ bb k, (binOp .eql 80 (.pointer (some p)) (.pointer (some q))).run Tryz.prog W = .ok (.bool bb) (W.drewN k) ∧ ((p.block = q.block ∨ fa = (0, 0)) → bb = false) := by
  obtain ⟨j, hj, hs⟩ := Option.map_eq_some_iff.1 expr_ptr
  have hp := Tryz.underlying80
  have hred : ∀ (bb : Bool) (W' : World), (sameAddr p q).run Tryz.prog W = .ok bb W' → (binOp .eql 80 (.pointer (some p)) (.pointer (some q))).run Tryz.prog W = .ok (.bool bb) W' := fun bb W' h => by
    have h1 : ∀ d : Nat, (Op.equalIn (d + 1) 80 (.pointer (some p)) (.pointer (some q))).run Tryz.prog W = .ok bb W' := fun d => by
      simp [Op.equalIn, run_underlying hp, sizeOf, typeInfo, hj, hs, h]
    simp only [binOp]
    simp [Op.equal, Op.maxDepth, h1 9999]
  by_cases hbl : p.block = q.block
  · exact ⟨false, 0, hred _ _ (by simp [sameAddr, hbl, hne, World.drewN]), fun _ => rfl⟩
  · obtain ⟨lo, hi⟩ := fa
    obtain ⟨l2, h2⟩ := fb
    obtain ⟨n1, e1⟩ := Nat.exists_eq_succ_of_ne_zero sa
    obtain ⟨n2, e2⟩ := Nat.exists_eq_succ_of_ne_zero sb
    simp only [World.frozen?, ha] at fp
    generalize hr : (sameAddr p q).run Tryz.prog W = r at hred
    simp [sameAddr, hbl, World.frozen?, ha, hb, fp, noView, viewAt, World.shape?, mayBeOne, stringish, e1, e2] at hr
    have h1 : W.drew = W.drewN 1 := rfl
    split at hr
    · split at hr
      · rename_i hc
        split at hr
        · exact ⟨false, 0, hred _ _ hr.symm, fun _ => rfl⟩
        · rw [h1] at hr
          refine ⟨_, 1, hred _ _ hr.symm, fun h => ?_⟩
          rcases h with h | h
          · exact absurd h hbl
          · have h4 : hi = 0 := congrArg Prod.snd h
            rw [h4] at hc
            exact absurd hc.2 (Nat.not_lt_zero _)
      · exact ⟨false, 0, hred _ _ hr.symm, fun _ => rfl⟩
    · split at hr
      · rename_i hc
        split at hr
        · exact ⟨false, 0, hred _ _ hr.symm, fun _ => rfl⟩
        · rw [h1] at hr
          refine ⟨_, 1, hred _ _ hr.symm, fun h => ?_⟩
          rcases h with h | h
          · exact absurd h hbl
          · have h4 : hi = 0 := congrArg Prod.snd h
            rw [h4] at hc
            exact absurd hc.1.2 (Nat.not_lt_zero _)
      · exact ⟨false, 0, hred _ _ hr.symm, fun _ => rfl⟩
theorem cell_cells {w : World} {g i : Nat} {v : Value} (h : w.cell? ⟨g, i, none⟩ = some v) : ∃ cs T fz, w.heap[g]? = some (.cells cs T fz) ∧ cs.size ≠ 0 := by
  unfold World.cell? at h
  rcases hb : w.heap[g]? with _ | o
  · simp [hb] at h
  · cases o <;> simp [hb] at h
    rename_i cs T fz
    refine ⟨cs, T, fz, rfl, fun e => ?_⟩
    have hc : cs = #[] := Array.eq_empty_of_size_eq_zero e
    subst hc
    simp at h
section
variable {w0 : World} {m bx B : Nat} {Gd : X → Option Addr → Prop} {mk : Prop} {x : X} {a : Option Addr} {c : Nat}
/-- where the function stands: what it handed out, and the way -/
structure PInv (w0 : World) (m bx B : Nat) (Gd : X → Option Addr → Prop) (mk : Prop) (x : X) (a : Option Addr) (c : Nat) (J : List (PA w0 m Gd mk) → World → Prop) (pre : List (PA w0 m Gd mk)) (P : List St14) (v : Value) (W : World) : Prop where
  say : pre.map pxd ++ todo 0 P = Sx.po x 1
  j : J pre W
  side : Side w0 W m bx x a c
  way : WayOk w0 m bx Gd x a c P
  own : OwL fS 82 2 W B v P
variable {J : List (PA w0 m Gd mk) → World → Prop} {pre : List (PA w0 m Gd mk)} {P : List St14} {t : St14} {v : Value} {W W' : World}
theorem pinv_below (hJ : ∀ s, Surv B 82 (J s)) (h : PInv w0 m bx B Gd mk x a c J pre P v W) (hb : Below W.heap.size W W') : PInv w0 m bx B Gd mk x a c J pre P v W' :=
  ⟨h.say, surv_below (hJ _) h.j hb, side_below h.side hb, h.way, owL_below h.own hb⟩
theorem way_front (h : WayOk w0 m bx Gd x a c (P ++ [t])) : WayOk w0 m bx Gd x a c P :=
  ⟨fun s hs => h.at_ s (List.mem_append_left _ hs), fun s hs => h.sub s (List.mem_append_left _ hs), (List.pairwise_append.1 h.less).1, fun i hi => by
    have := h.few i (by rw [List.length_append]; omega)
    rwa [List.getElem_append_left hi] at this⟩
/-- a step that was gone through -/
theorem pinv_pop {al : Option Addr} {n cp : Nat} (h : PInv w0 m bx B Gd mk x a c J pre (P ++ [t]) (.slice al (n + 1) cp) W) (hn : P.length = n) (hd : t.d = t.x.l.length) : PInv w0 m bx B Gd mk x a c J pre P (.slice al n cp) W := by
  refine ⟨?_, h.j, h.side, way_front h.way, owL_pop (f := fS) (fun _ => rfl) h.own hn⟩
  have := h.say
  rw [todo_snoc, hd, List.drop_length, Sx.poL, List.nil_append] at this
  exact this
/-- what the walk wants of the last step -/
theorem pinv_last {al : Option Addr} {n cp : Nat} (h : PInv w0 m bx B Gd mk x a c J pre (P ++ [t]) (.slice al n cp) W) : ∃ g, al = some ⟨g, 0, none⟩ ∧ n = P.length + 1 ∧ n ≤ cp ∧ cp ≤ maxLen ∧ B ≤ g ∧ g < W.heap.size ∧ n ≤ 1000 ∧
    W.cell? ⟨g, P.length * 2, none⟩ = some (.pointer (some ⟨t.b, t.o, none⟩)) ∧ W.cell? ⟨g, P.length * 2 + 1, none⟩ = some (.int .i64 (t.d : Int)) ∧ W.frozen? ⟨g, P.length * 2 + 1, none⟩ = false ∧
    W.cell? ⟨t.b, t.o + 5, none⟩ = some (.slice t.a t.x.l.length t.c) := by
  have hlen : (P ++ [t]).length = P.length + 1 := by simp
  have hi : P.length < (P ++ [t]).length := by omega
  obtain ⟨g, c', e, hc⟩ := owL_cell (f := fS) (fun _ _ => rfl) h.own P.length hi
  have e2 : (P ++ [t])[P.length] = t := by simp
  rw [e2] at hc
  injection e with e1 e3 e4
  subst e1
  have hlt := owL_lt h.own g rfl
  obtain ⟨_, _, ef, hcap, hmax, _⟩ := owL_form h.own
  injection ef with _ ef2 ef3
  have hfew := h.way.few P.length hi
  rw [e2] at hfew
  have hdp : 1 ≤ Sx.deep t.x := by rw [Sx.deep_eq]; omega
  refine ⟨g, rfl, by omega, by omega, by omega, hlt.1, hlt.2, by omega, (hc 0 _ rfl).1, (hc 1 _ rfl).1, (hc 1 _ rfl).2, (way_cells h.side h.way t (by simp)).2.2.2.2.2⟩
/-- the step's count is one more -/
theorem pinv_done (hJ : ∀ s, Surv B 82 (J s)) {g n cp : Nat} (h : PInv w0 m bx B Gd mk x a c J pre (P ++ [t]) (.slice (some ⟨g, 0, none⟩) n cp) W) (hm : m ≤ B) (hbx : bx < B) (hd : t.d < t.x.l.length) :
    ∃ wq : World, wq = W.setCell ⟨g, P.length * 2 + 1, none⟩ (.int .i64 ((t.d : Int) + 1)) ∧ J pre wq ∧ Side w0 wq m bx x a c ∧ WayOk w0 m bx Gd x a c (P ++ [{ t with d := t.d + 1 }]) ∧ OwL fS 82 2 wq B (.slice (some ⟨g, 0, none⟩) n cp) (P ++ [{ t with d := t.d + 1 }]) ∧
      Only (fun k => k = g) W wq := by
  have ho : Only (fun k => k = g) W (W.setCell ⟨g, P.length * 2 + 1, none⟩ (.int .i64 ((t.d : Int) + 1))) := Only.setCell (F := fun k => k = g) (Only.refl _ _) (fun _ => rfl) _
  have hg := owS_cells h.own g rfl
  refine ⟨_, rfl, surv_only (hJ pre) (r := some g) h.j (ho.mono fun k _ e => by rw [e]) (fun j e => by cases e; exact hg), side_only h.side ho fun j e => ?_, ⟨fun s hs => ?_, fun s hs => ?_, ?_, fun i hi => ?_⟩, owL_last1 (f := fS) (fun _ => rfl) h.own (by omega) _ _ rfl, ho⟩
  · have e2 : j = g := e
    have := hg.1
    omega
  · rw [List.mem_append, List.mem_singleton] at hs
    rcases hs with hs | rfl
    · exact h.way.at_ s (List.mem_append_left _ hs)
    · exact h.way.at_ t (by simp)
  · rw [List.mem_append, List.mem_singleton] at hs
    rcases hs with hs | rfl
    · exact h.way.sub s (List.mem_append_left _ hs)
    · have := h.way.sub t (by simp)
      exact ⟨this.1, this.2.1, hd⟩
  · have := h.way.less
    rw [List.pairwise_append] at this ⊢
    refine ⟨this.1, List.pairwise_singleton _ _, fun s hs u hu => ?_⟩
    rw [List.mem_singleton] at hu
    subst hu
    exact this.2.2 s hs t (by simp)
  · have := h.way.few i (by simpa using hi)
    by_cases hlt : i < P.length
    · rw [List.getElem_append_left hlt] at this ⊢
      exact this
    · obtain rfl : i = P.length := by simp at hi; omega
      simpa using this
/-- a part steps onto the way -/
theorem pinv_push {b o cy : Nat} {ay : Option Addr} (hw : WayOk w0 m bx Gd x a c (P ++ [{ t with d := t.d + 1 }])) (hd : t.d < t.x.l.length) (hb : b < m) (hc : Cells6 w0 b o t.x.l[t.d] ay cy) (hx : XAt w0 (fun j => j < m) t.x.l[t.d] ay) (hG : Gd t.x.l[t.d] ay) :
    WayOk w0 m bx Gd x a c ((P ++ [{ t with d := t.d + 1 }]) ++ [⟨b, o, t.x.l[t.d], ay, cy, 0⟩]) := by
  have hdp := Sx.deep_at hd
  refine ⟨fun s hs => ?_, fun s hs => ?_, ?_, fun i hi => ?_⟩
  · rw [List.mem_append, List.mem_singleton] at hs
    rcases hs with hs | rfl
    · exact hw.at_ s hs
    · exact .inl ⟨hb, hc⟩
  · rw [List.mem_append, List.mem_singleton] at hs
    rcases hs with hs | rfl
    · exact hw.sub s hs
    · exact ⟨hx, hG, Nat.zero_le _⟩
  · rw [List.pairwise_append]
    refine ⟨hw.less, List.pairwise_singleton _ _, fun s hs u hu => ?_⟩
    rw [List.mem_singleton] at hu
    subst hu
    rw [List.mem_append, List.mem_singleton] at hs
    rcases hs with hs | rfl
    · exact Nat.lt_trans hdp ((List.pairwise_append.1 hw.less).2.2 s hs { t with d := t.d + 1 } (by simp))
    · exact hdp
  · by_cases hlt : i < (P ++ [{ t with d := t.d + 1 }]).length
    · have := hw.few i hlt
      rw [List.getElem_append_left hlt]
      exact this
    · obtain rfl : i = (P ++ [{ t with d := t.d + 1 }]).length := by rw [List.length_append] at hi; simp at hi hlt ⊢; omega
      have := hw.few P.length (by simp)
      simp only [List.getElem_concat_length, List.length_append, List.length_singleton] at this ⊢
      omega
theorem say_push {b o cy : Nat} {ay : Option Addr} (h : pre.map pxd ++ todo 0 (P ++ [t]) = Sx.po x 1) (hd : t.d < t.x.l.length) : pre.map pxd ++ (t.x.l[t.d], P.length + 2) :: todo 0 ((P ++ [{ t with d := t.d + 1 }]) ++ [⟨b, o, t.x.l[t.d], ay, cy, 0⟩]) = Sx.po x 1 := by
  rw [todo_snoc, Sx.poL_drop _ _ _ hd, Sx.po_eq] at h
  rw [todo_snoc, todo_snoc, List.drop_zero, ← h]
  simp [Nat.add_assoc]
end
end Go.Proofs.YtekahmlppaabjaaGreatDoor
