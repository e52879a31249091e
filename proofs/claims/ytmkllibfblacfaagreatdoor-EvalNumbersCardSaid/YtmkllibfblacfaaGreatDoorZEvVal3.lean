/-
  Layer 16, the program's: a round of the loop that tells a value.
-/
import Derived.Test.YtmkllibfblacfaaGreatDoorZEvVal2
namespace Go.Proofs.YtmkllibfblacfaaGreatDoor
open Go.RowKit Go.Shelf
open Sx (X)
open Vl (V)
namespace Evw
section
variable {w0 : World} {m bx B : Nat} {x : X} {a : Option Addr} {c : Nat} {E : Ev.Env} {Rz : V × Int} {f : Nat} {P : List St14} {t : St14} {Vs : List V} {va vv : Value} {W W' : World}
theorem start_inv {f : Nat} (hrun : Ev.mrun E f [(x, 0)] [] = some Rz) (hx : XAt w0 (fun j => j < m) x a) (hG : GdE x a) (hd : Sx.deep x ≤ 1000) (hS : Side w0 W m bx x a c) {g : Nat} (hg : B ≤ g) (hr : RowV W g 124 [.pointer (some ⟨bx, 0, none⟩), .int .i64 0]) :
    VInv w0 m bx B x a c E Rz f [⟨bx, 0, x, a, c, 0⟩] [] (.slice (some ⟨g, 0, none⟩) 1 1) (.slice none 0 0) W := by
  refine ⟨hrun, cnt_one _ rfl, fun t ht _ => ?_, fun v hv => absurd hv List.not_mem_nil, hS, ⟨fun s hs => ?_, fun s hs => ?_, List.pairwise_singleton _ _, fun i hi => ?_⟩, owL_one (f := fS) hr hg rfl, owL_nil _⟩
  · rw [List.mem_singleton] at ht; subst ht; exact Nat.zero_le _
  · rw [List.mem_singleton] at hs; subst hs; exact .inr ⟨rfl, rfl, rfl, rfl, rfl⟩
  · rw [List.mem_singleton] at hs; subst hs; exact ⟨hx, hG, Nat.zero_le _⟩
  · obtain rfl : i = 0 := by simpa using hi
    exact hd
/-- the last step's count is one more: what is kept between that and the next part's step -/
structure VMid (w0 : World) (m bx B : Nat) (x : X) (a : Option Addr) (c : Nat) (E : Ev.Env) (Rz : V × Int) (f : Nat) (P : List St14) (t : St14) (Vs : List V) (va vv : Value) (W : World) : Prop where
  old : Cnt (P ++ [t]) Vs.length
  run : ∀ u : St14, (∀ h : t.d < t.x.l.length, u.x = t.x.l[t.d]) → u.d = 0 → Ev.mrun E f (mach ((P ++ [{ t with d := t.d + 1 }]) ++ [u])) Vs.reverse = some Rz
  ifs : ∀ s ∈ P ++ [{ t with d := t.d + 1 }], s.x.op = 16 → s.d ≤ 1
  fit : ∀ v ∈ Vs, Fit16 v
  side : Side w0 W m bx x a c
  way : WayOk w0 m bx GdE x a c (P ++ [{ t with d := t.d + 1 }])
  ownW : OwL fS 124 2 W B va (P ++ [{ t with d := t.d + 1 }])
  ownV : OwL vCl 31 3 W B vv Vs
theorem mid_below (h : VMid w0 m bx B x a c E Rz f P t Vs va vv W) (hb : Below W.heap.size W W') : VMid w0 m bx B x a c E Rz f P t Vs va vv W' :=
  ⟨h.old, h.run, h.ifs, h.fit, side_below h.side hb, h.way, owL_below h.ownW hb, owL_below h.ownV hb⟩
theorem vi_done {g n cp : Nat} (h : VInv w0 m bx B x a c E Rz (f + 1) (P ++ [t]) Vs (.slice (some ⟨g, 0, none⟩) n cp) vv W) (hm : m ≤ B) (hbx : bx < B) (h16 : ¬ (t.x.op = 16 ∧ 0 < t.d)) (hd : t.d < t.x.l.length) :
    VMid w0 m bx B x a c E Rz f P t Vs (.slice (some ⟨g, 0, none⟩) n cp) vv (W.setCell ⟨g, P.length * 2 + 1, none⟩ (.int .i64 ((t.d : Int) + 1))) ∧ Only (fun k => k = g) W (W.setCell ⟨g, P.length * 2 + 1, none⟩ (.int .i64 ((t.d : Int) + 1))) := by
  have ho : Only (fun k => k = g) W (W.setCell ⟨g, P.length * 2 + 1, none⟩ (.int .i64 ((t.d : Int) + 1))) := Only.setCell (F := fun k => k = g) (Only.refl _ _) (fun _ => rfl) _
  have hg := (Upw.owL_block h.ownW g rfl).1
  refine ⟨⟨h.cnt, fun u hu h0 => run_push h.run h16 hd _ u rfl rfl (hu hd) h0, fun s hs h1 => ?_, h.fit, side_only h.side ho fun j e => ?_, ⟨fun s hs => ?_, fun s hs => ?_, ?_, fun i hi => ?_⟩, owL_last1 (f := fS) (fun _ => rfl) h.ownW (by omega) _ _ rfl, owL_only h.ownV ho fun j e hj => ?_⟩, ho⟩
  · rw [List.mem_append, List.mem_singleton] at hs
    rcases hs with hs | rfl
    · exact h.ifs s (List.mem_append_left _ hs) h1
    · have : t.d = 0 := by
        rcases Nat.eq_zero_or_pos t.d with h0 | h0
        · exact h0
        · exact absurd ⟨h1, h0⟩ h16
      show t.d + 1 ≤ 1
      omega
  · have e2 : j = g := e
    omega
  · rw [List.mem_append, List.mem_singleton] at hs
    rcases hs with hs | rfl
    · exact h.way.at_ s (List.mem_append_left _ hs)
    · exact h.way.at_ t (by simp)
  · rw [List.mem_append, List.mem_singleton] at hs
    rcases hs with hs | rfl
    · exact h.way.sub s (List.mem_append_left _ hs)
    · have := h.way.sub t (by simp)
      exact ⟨this.1, this.2.1, hd⟩
  · have := h.way.less
    rw [List.pairwise_append] at this ⊢
    refine ⟨this.1, List.pairwise_singleton _ _, fun s hs u hu => ?_⟩
    rw [List.mem_singleton] at hu
    subst hu
    exact this.2.2 s hs t (by simp)
  · have := h.way.few i (by simpa using hi)
    by_cases hlt : i < P.length
    · rw [List.getElem_append_left hlt] at this ⊢
      exact this
    · obtain rfl : i = P.length := by simp at hi; omega
      simpa using this
  · have e2 : j = g := hj
    subst e2
    exact vi_apart h.ownW h.ownV j rfl e
/-- the next part's step is on the way -/
theorem vi_push {va' : Value} {b o cy : Nat} {ay : Option Addr} (h : VMid w0 m bx B x a c E Rz f P t Vs va vv W) (hd : t.d < t.x.l.length) (hb : b < m) (hm : m ≤ B) (hbx : bx < B) (hc : Cells6 w0 b o t.x.l[t.d] ay cy) (hx : XAt w0 (fun j => j < m) t.x.l[t.d] ay) (hG : GdE t.x.l[t.d] ay)
    (hO : OwL fS 124 2 W' B va' ((P ++ [{ t with d := t.d + 1 }]) ++ [⟨b, o, t.x.l[t.d], ay, cy, 0⟩])) (ho : Only (fun j => va.ownBlock = some j) W W') :
    VInv w0 m bx B x a c E Rz f ((P ++ [{ t with d := t.d + 1 }]) ++ [⟨b, o, t.x.l[t.d], ay, cy, 0⟩]) Vs va' vv W' := by
  refine ⟨h.run _ (fun _ => rfl) rfl, cnt_push h.old rfl rfl, fun s hs h1 => ?_, h.fit, side_only h.side ho fun j e => ?_, pinv_push h.way hd hb hc hx hG, hO, owL_only h.ownV ho fun j e hj => ?_⟩
  · rw [List.mem_append, List.mem_singleton] at hs
    rcases hs with hs | rfl
    · exact h.ifs s hs h1
    · exact Nat.zero_le _
  · have := (owL_lt h.ownW j e).1
    omega
  · exact vi_apart h.ownW h.ownV j hj e
/-- an if's step has become its picked part's -/
theorem vi_pick {g n cp : Nat} {av : Option Addr} {cv : Nat} {v : V} {Vr : List V} {i b o cy : Nat} {ay : Option Addr} (h : VInv w0 m bx B x a c E Rz (f + 1) (P ++ [t]) (Vr ++ [v]) (.slice (some ⟨g, 0, none⟩) n cp) (.slice av (Vr.length + 1) cv) W) (hm : m ≤ B) (hbx : bx < B) (h16 : t.x.op = 16) (hd : 0 < t.d) (hs : Ev.shared 16 [v] ≠ none)
    (hi : i < t.x.l.length) (hip : i = Ev.pick v) (hb : b < m) (hc : Cells6 w0 b o t.x.l[i] ay cy) (hx : XAt w0 (fun j => j < m) t.x.l[i] ay) :
    VInv w0 m bx B x a c E Rz f (P ++ [⟨b, o, t.x.l[i], ay, cy, 0⟩]) Vr (.slice (some ⟨g, 0, none⟩) n cp) (.slice av Vr.length cv) ((W.setCell ⟨g, P.length * 2, none⟩ (.pointer (some ⟨b, o, none⟩))).setCell ⟨g, P.length * 2 + 1, none⟩ (.int .i64 0)) ∧
    Only (fun k => k = g) W ((W.setCell ⟨g, P.length * 2, none⟩ (.pointer (some ⟨b, o, none⟩))).setCell ⟨g, P.length * 2 + 1, none⟩ (.int .i64 0)) := by
  have ho : Only (fun k => k = g) W ((W.setCell ⟨g, P.length * 2, none⟩ (.pointer (some ⟨b, o, none⟩))).setCell ⟨g, P.length * 2 + 1, none⟩ (.int .i64 0)) := Only.setCell (F := fun k => k = g) (Only.setCell (F := fun k => k = g) (Only.refl _ _) (fun _ => rfl) _) (fun _ => rfl) _
  have hg := (Upw.owL_block h.ownW g rfl).1
  have h1 : t.d = 1 := by have := h.ifs t (by simp) h16; omega
  have hW1 := owL_last1 (f := fS) (fun _ => rfl) h.ownW (j := 0) (by omega) (.pointer (some ⟨b, o, none⟩)) ⟨b, o, t.x.l[i], ay, cy, t.d⟩ rfl
  have hW2 := owL_last1 (f := fS) (fun _ => rfl) hW1 (j := 1) (by omega) (.int .i64 0) ⟨b, o, t.x.l[i], ay, cy, 0⟩ rfl
  have hdp : Sx.deep t.x.l[i] < Sx.deep t.x := Sx.deep_at hi
  have hcn : Cnt (P ++ [t]) (Vr.length + 1) := by have := h.cnt; rwa [List.length_append] at this
  refine ⟨⟨(run_if h.run h16 hd).2 hs _ (by subst hip; exact (List.getElem_eq_getD (h := hi) Sx.no)) rfl, cnt_pick hcn h1 rfl, fun s hs2 h2 => ?_, fun u hu => h.fit u (List.mem_append_left _ hu), side_only h.side ho fun j e => ?_, ⟨fun s hs2 => ?_, fun s hs2 => ?_, ?_, fun k hk => ?_⟩, hW2, owL_pop (f := vCl) (fun _ => rfl) (owL_only h.ownV ho fun j e hj => ?_) rfl⟩, ho⟩
  · rw [List.mem_append, List.mem_singleton] at hs2
    rcases hs2 with hs2 | rfl
    · exact h.ifs s (List.mem_append_left _ hs2) h2
    · exact Nat.zero_le _
  · have e2 : j = g := e
    omega
  · rw [List.mem_append, List.mem_singleton] at hs2
    rcases hs2 with hs2 | rfl
    · exact h.way.at_ s (List.mem_append_left _ hs2)
    · exact .inl ⟨hb, hc⟩
  · rw [List.mem_append, List.mem_singleton] at hs2
    rcases hs2 with hs2 | rfl
    · exact h.way.sub s (List.mem_append_left _ hs2)
    · have := h.way.sub t (by simp)
      exact ⟨hx, gdE_sub this.2.1 i hi ay, Nat.zero_le _⟩
  · have := h.way.less
    rw [List.pairwise_append] at this ⊢
    refine ⟨this.1, List.pairwise_singleton _ _, fun s hs2 u hu => ?_⟩
    rw [List.mem_singleton] at hu
    subst hu
    exact Nat.lt_trans hdp (this.2.2 s hs2 t (by simp))
  · have := h.way.few k (by simpa using hk)
    by_cases hlt : k < P.length
    · rw [List.getElem_append_left hlt] at this ⊢
      exact this
    · obtain rfl : k = P.length := by simp at hk; omega
      rw [List.getElem_concat_length (by rfl)] at this ⊢
      show Sx.deep t.x.l[i] + P.length ≤ 1000
      omega
  · have e2 : j = g := hj
    subst e2
    exact vi_apart h.ownW h.ownV j rfl e
/-- a part has told its value: its own parts' values go -/
theorem vi_told {al : Option Addr} {n cp : Nat} {vv' : Value} {A Bs : List V} {r : V} (h : VInv w0 m bx B x a c E Rz (f + 1) (P ++ [t]) (A ++ Bs) (.slice al (n + 1) cp) vv W) (hm : m ≤ B) (hbx : bx < B) (h16 : ¬ (t.x.op = 16 ∧ 0 < t.d)) (hd : ¬ t.d < t.x.l.length) (hB : Bs.length = t.x.l.length) (hE : ∀ s v, E s = some v → Fit16 v)
    (h0 : (Ev.told E t.x Bs).2 = 0) (hr : r = (Ev.told E t.x Bs).1) (hn : P.length = n) (hV : OwL vCl 31 3 W' B vv' (A ++ [r])) (ho : Only (fun j => vv.ownBlock = some j) W W') :
    VInv w0 m bx B x a c E Rz f P (A ++ [r]) (.slice al n cp) vv' W' := by
  subst hr
  have ht := h.way.sub t (by simp)
  refine ⟨(run_told h.run h16 hd hB).1 h0, ?_, fun s hs => h.ifs s (List.mem_append_left _ hs), fun u hu => ?_, side_only h.side ho fun j e => ?_, way_front h.way, owL_pop (f := fS) (fun _ => rfl) (owL_only h.ownW ho fun j e hj => ?_) hn, hV⟩
  · have h1 := h.cnt
    rw [List.length_append] at h1
    rw [List.length_append, List.length_singleton]
    exact cnt_pop h1 (by have := ht.2.2; omega)
  · rw [List.mem_append, List.mem_singleton] at hu
    rcases hu with hu | rfl
    · exact h.fit u (List.mem_append_left _ hu)
    · exact fit_told hE t.x (fun h1 => gdE_lit ht.2.1 h1) Bs h0
  · have := (owL_lt h.ownV j e).1
    omega
  · exact vi_apart h.ownW h.ownV j e hj
end
end Evw
end Go.Proofs.YtmkllibfblacfaaGreatDoor
