/-
  Layer 16, the program's: what the loop that tells a value keeps.
-/
import Derived.Test.YtmkllibfblacfaaGreatDoorZEvVal1
import Derived.Test.YtmkllibfblacfaaGreatDoorZTypKind
namespace Go.Proofs.YtmkllibfblacfaaGreatDoor
open Go.RowKit Go.Shelf
open Sx (X)
open Vl (V)
attribute [local go_sem] Oper.semAt_some
namespace Evw
theorem val_size16 : (Tryz.prog.info? 31).map (·.size) = some 3 := by kernel_rfl
theorem elem_val16 : Tryz.prog.elem 32 = 31 := by kernel_rfl
theorem slice_front16 (la : Option Addr) (n cap k : Nat) (hk : k ≤ cap) (w : World) : (Instr.slice 32 (.slice la n cap) none (some (.int .i64 (k : Int))) none).run Tryz.prog w = .ok (.slice la k cap) w := by
  obtain ⟨i0, hi0, hz⟩ := Option.map_eq_some_iff.1 val_size16
  rw [run_slice_h (P := Tryz.prog) w 32 la n cap (by rw [elem_val16]; exact Tryz.underlying32) .i64 k (by omega) (by omega)]
  cases la <;> simp [elem_val16, sizeOf, typeInfo, hi0, Result.andThen, sliced, Addr.add]
theorem slice_from16 (la : Option Addr) (n cap k : Nat) (hk : k ≤ n) (w : World) : (Instr.slice 32 (.slice la n cap) (some (.int .i64 (k : Int))) none none).run Tryz.prog w = .ok (.slice (if cap = k then la else la.map (·.add (k * 3))) (n - k) (cap - k)) w := by
  obtain ⟨i0, hi0, hz⟩ := Option.map_eq_some_iff.1 val_size16
  rw [run_slice_l (P := Tryz.prog) w 32 la n cap (by rw [elem_val16]; exact Tryz.underlying32) .i64 k (by omega) (by omega)]
  simp [elem_val16, sizeOf, typeInfo, hi0, Result.andThen, sliced, hz]
/-- the values from one on, read where the slice of them begins -/
theorem owL_from16 {w : World} {B cp FR : Nat} {al : Option Addr} {l : List V} (h : OwL vCl 31 3 w B (.slice al l.length cp) l) (hFR : FR ≤ l.length) : ReadsV w (if cp = FR then al else al.map (·.add (FR * 3))) (l.drop FR) := by
  intro i hi
  rw [List.length_drop] at hi
  obtain ⟨g, c', e, hc⟩ := owL_cell (f := vCl) (fun _ _ => rfl) h (FR + i) (by omega)
  injection e with e1 _ e3
  subst e1; subst e3
  have hcap : l.length ≤ cp := by
    obtain ⟨_, _, e, hh, _⟩ := owL_form h
    injection e with _ _ e
    subst e; exact hh
  have hne : ¬ cp = FR := by omega
  rw [if_neg hne]
  have e3 : (FR + i) * 3 = FR * 3 + i * 3 := Nat.add_mul _ _ _
  refine ⟨g, FR * 3, by simp [Addr.add]; exact fun h => h.symm, ?_, ?_, ?_⟩
  · have h := (hc 0 _ rfl).1
    rw [Nat.add_zero, e3] at h
    rw [List.getElem_drop]; exact h
  · have h := (hc 1 _ rfl).1
    rw [e3] at h
    rw [List.getElem_drop]; exact h
  · have h := (hc 2 _ rfl).1
    rw [e3] at h
    rw [List.getElem_drop]; exact h
/-- what is known of each part -/
abbrev GdE (y : X) (_ : Option Addr) : Prop := Sx.fine y ∧ Sx.right y = true
theorem gdE_sub {y : X} {ay : Option Addr} (h : GdE y ay) (i : Nat) (hi : i < y.l.length) (az : Option Addr) : GdE y.l[i] az := by
  refine ⟨(Sx.fine_is h.1).2.2 i hi, ?_⟩
  obtain ⟨o, v, s, l⟩ := y
  exact (Sx.rightL_all l).1 (Ty.right_sub h.2).1 _ (List.getElem_mem hi)
theorem gdE_few {y : X} {ay : Option Addr} (h : GdE y ay) : y.l.length ≤ 3 := by
  obtain ⟨o, v, s, l⟩ := y
  exact Ty.right_few h.2
theorem gdE_if {y : X} {ay : Option Addr} (h : GdE y ay) (h16 : y.op = 16) : y.l.length = 3 := by
  obtain ⟨o, v, s, l⟩ := y
  exact Ev.if_three h.2 h16
theorem gdE_lit {y : X} {ay : Option Addr} (h : GdE y ay) (h1 : y.op = 1) : Fit16 y.v := by
  have h2 := h.2
  rw [Sx.right_eq, Bool.and_eq_true, if_pos h1, Bool.and_eq_true, Bool.and_eq_true, decide_eq_true_eq, decide_eq_true_eq, decide_eq_true_eq] at h2
  have h3 := h2.2.1.2
  have h4 := (Sx.okX_is (Sx.fine_is h.1).1).1
  refine ⟨h4, ?_⟩
  unfold Vl.right at h3
  rcases h3 with ⟨_, _, h⟩ | ⟨_, h⟩ | ⟨_, _, h⟩ | ⟨_, _, h⟩
  · rw [h]; exact Nat.zero_le _
  · rw [h]; exact Nat.zero_le _
  · have := h.1; omega
  · rw [h]; exact Nat.zero_le _
/-- how many parts an op has, where it is done at the end -/
theorem gdE_need {y : X} {ay : Option Addr} (h : GdE y ay) (h16 : y.op ≠ 16) : (y.op = 3 → 0 < y.l.length) ∧ (y.op ≠ 1 → y.op ≠ 2 → y.op ≠ 3 → y.op ≠ 14 → y.op ≠ 15 → 1 < y.l.length) := by
  have h2 := h.2
  rw [Sx.right_eq, Bool.and_eq_true, decide_eq_true_eq] at h2
  have h3 := h2.1
  unfold Sx.count at h3
  refine ⟨fun e => ?_, fun e1 e2 e3 e4 e5 => ?_⟩
  · rw [e] at h3; simp at h3; omega
  · rw [if_neg (by omega), if_neg e3, if_neg h16] at h3
    by_cases hc : 4 ≤ y.op ∧ y.op ≤ 15
    · rw [if_pos hc] at h3; omega
    · rw [if_neg hc] at h3; omega
/-- what the loop keeps: B: where its own lists lie -/
structure VInv (w0 : World) (m bx B : Nat) (x : X) (a : Option Addr) (c : Nat) (E : Ev.Env) (Rz : V × Int) (f : Nat) (P : List St14) (Vs : List V) (va vv : Value) (W : World) : Prop where
  run : Ev.mrun E f (mach P) Vs.reverse = some Rz
  cnt : Cnt P Vs.length
  ifs : ∀ t ∈ P, t.x.op = 16 → t.d ≤ 1
  fit : ∀ v ∈ Vs, Fit16 v
  side : Side w0 W m bx x a c
  way : WayOk w0 m bx GdE x a c P
  ownW : OwL fS 124 2 W B va P
  ownV : OwL vCl 31 3 W B vv Vs
section
variable {w0 : World} {m bx B : Nat} {x : X} {a : Option Addr} {c : Nat} {E : Ev.Env} {Rz : V × Int} {f : Nat} {P : List St14} {t : St14} {Vs : List V} {va vv : Value} {W W' : World}
theorem vi_below (h : VInv w0 m bx B x a c E Rz f P Vs va vv W) (hb : Below W.heap.size W W') : VInv w0 m bx B x a c E Rz f P Vs va vv W' :=
  ⟨h.run, h.cnt, h.ifs, h.fit, side_below h.side hb, h.way, owL_below h.ownW hb, owL_below h.ownV hb⟩
theorem vi_only {F : Nat → Prop} (h : VInv w0 m bx B x a c E Rz f P Vs va vv W) (ho : Only F W W') (hF : ∀ j, F j → m ≤ j ∧ j ≠ bx ∧ j < B) : VInv w0 m bx B x a c E Rz f P Vs va vv W' :=
  ⟨h.run, h.cnt, h.ifs, h.fit, side_only h.side ho fun j hj => ⟨(hF j hj).1, (hF j hj).2.1⟩, h.way, owL_only h.ownW ho fun j e hj => by have := (owL_lt h.ownW j e).1; have := (hF j hj).2.2; omega, owL_only h.ownV ho fun j e hj => by have := (owL_lt h.ownV j e).1; have := (hF j hj).2.2; omega⟩
/-- the two lists lie apart -/
theorem vi_apart (hW : OwL fS 124 2 W B va P) (hV : OwL vCl 31 3 W B vv Vs) : ∀ j, va.ownBlock = some j → vv.ownBlock = some j → False := by
  intro j e1 e2
  obtain ⟨_, _, cs, fz, h1⟩ := Upw.owL_block hW j e1
  obtain ⟨_, _, cs', fz', h2⟩ := Upw.owL_block hV j e2
  rw [h1] at h2
  injection h2 with h2
  injection h2 with _ h2
  exact absurd h2 (by decide)
/-- what the walk wants of the last step -/
theorem vi_last {al : Option Addr} {n cp : Nat} (h : VInv w0 m bx B x a c E Rz f (P ++ [t]) Vs (.slice al n cp) vv W) : ∃ g, al = some ⟨g, 0, none⟩ ∧ n = P.length + 1 ∧ n ≤ cp ∧ cp ≤ maxLen ∧ B ≤ g ∧ g < W.heap.size ∧ n ≤ 1000 ∧
    W.cell? ⟨g, P.length * 2, none⟩ = some (.pointer (some ⟨t.b, t.o, none⟩)) ∧ W.cell? ⟨g, P.length * 2 + 1, none⟩ = some (.int .i64 (t.d : Int)) ∧ W.frozen? ⟨g, P.length * 2, none⟩ = false ∧ W.frozen? ⟨g, P.length * 2 + 1, none⟩ = false ∧
    Cells6 W t.b t.o t.x t.a t.c := by
  have hlen : (P ++ [t]).length = P.length + 1 := by simp
  have hi : P.length < (P ++ [t]).length := by omega
  obtain ⟨g, c', e, hc⟩ := owL_cell (f := fS) (fun _ _ => rfl) h.ownW P.length hi
  have e2 : (P ++ [t])[P.length] = t := by simp
  rw [e2] at hc
  injection e with e1 e3 e4
  subst e1
  have hlt := owL_lt h.ownW g rfl
  obtain ⟨_, _, ef, hcap, hmax, _⟩ := owL_form h.ownW
  injection ef with _ ef2 ef3
  have hfew := h.way.few P.length hi
  rw [e2] at hfew
  have hdp : 1 ≤ Sx.deep t.x := by rw [Sx.deep_eq]; omega
  exact ⟨g, rfl, by omega, by omega, by omega, hlt.1, hlt.2, by omega, (hc 0 _ rfl).1, (hc 1 _ rfl).1, (hc 0 _ rfl).2, (hc 1 _ rfl).2, way_cells h.side h.way t (by simp)⟩
/-- how many values there are -/
theorem vi_few (h : VInv w0 m bx B x a c E Rz f (P ++ [t]) Vs va vv W) : t.d ≤ Vs.length ∧ Vs.length ≤ 3003 := by
  refine ⟨cnt_room h.cnt, ?_⟩
  have h1 := cnt_few h.cnt fun s hs => by
    have h2 := h.way.sub s hs
    have h3 := gdE_few h2.2.1
    omega
  have hi : P.length < (P ++ [t]).length := by simp
  have hfew := h.way.few P.length hi
  omega
end
end Evw
end Go.Proofs.YtmkllibfblacfaaGreatDoor
