/-
  Layer 16 (plain): an expression's value, by its names' values.
-/
import Derived.Test.YtmkllibfblacfaaGreatDoorZEvNum
import Derived.Test.YtmkllibfblacfaaGreatDoorZTypMath2
namespace Go.Proofs.YtmkllibfblacfaaGreatDoor
open Sx (X)
open Vl (V)
namespace Ev
def truth (b : Bool) : V := ⟨3, if b then 1 else 0, Vl.mt⟩
/-- may an op have parts of a kind? -/
def takes (op k : Int) : Bool :=
  if k = 0 then true
  else if op = 8 ∨ op = 9 then true
  else if op = 4 ∨ op = 10 ∨ op = 11 ∨ op = 12 ∨ op = 13 then !decide (k = 3)
  else if op = 14 ∨ op = 15 ∨ op = 16 then decide (k = 3)
  else decide (k = 1)
/-- the one kind of values, but for nothing's -/
def shk : List V → Int → Option Int
  | [], k => some k
  | v :: r, k => if v.kind = 0 then shk r k else if k = 0 then shk r v.kind else if k = v.kind then shk r k else none
def shared (op : Int) (l : List V) : Option Int :=
  match shk l 0 with
  | some k => if takes op k = true then some k else none
  | none => none
def reck (op a b : Int) : Int × Int := if op = 4 then add a b else if op = 5 then sub a b else if op = 6 then mul a b else if op = 7 then div a b else (0, 0)
def num (r : Int × Int) : V × Int := if r.2 = 0 then (⟨1, r.1, Vl.mt⟩, 0) else (Vl.no, r.2)
def joined (a b : ByteArray) : V × Int := if 40 < a.size + b.size then (Vl.no, 5) else (⟨2, 0, a ++ b⟩, 0)
def compared (op n : Int) : V := if op = 10 then truth (decide (n < 0)) else if op = 11 then truth (decide (n ≤ 0)) else if op = 12 then truth (decide (n > 0)) else truth (decide (n ≥ 0))
def has (l : List V) (v : V) : Bool := l.any fun x => decide (x = v)
def decided (enough : Bool) (l : List V) : V := if has l (truth enough) = true then truth enough else if has l Vl.no = true then Vl.no else truth (!enough)
/-- what an op makes of values -/
def done (op : Int) (l : List V) : V × Int :=
  match shared op l with
  | none => (Vl.no, 14)
  | some k =>
    if op = 8 then (truth (decide (l.getD 0 Vl.no = l.getD 1 Vl.no)), 0)
    else if op = 9 then (truth (!decide (l.getD 0 Vl.no = l.getD 1 Vl.no)), 0)
    else if op = 14 then (decided false l, 0)
    else if op = 15 then (decided true l, 0)
    else if has l Vl.no = true then (Vl.no, 0)
    else if op = 3 then num (reck 5 0 (l.getD 0 Vl.no).n)
    else if op = 10 ∨ op = 11 ∨ op = 12 ∨ op = 13 then (compared op (Vl.cmp (l.getD 0 Vl.no) (l.getD 1 Vl.no)), 0)
    else if k = 2 then joined (l.getD 0 Vl.no).s (l.getD 1 Vl.no).s
    else num (reck op (l.getD 0 Vl.no).n (l.getD 1 Vl.no).n)
/-- names' values -/
abbrev Env := ByteArray → Option V
/-- of an expression whose parts tell these values -/
def told (E : Env) (x : X) (l : List V) : V × Int :=
  if x.op = 1 then (x.v, 0) else if x.op = 2 then (match E x.s with | some v => (v, 0) | none => (Vl.no, 13)) else done x.op l
/-- which part an if picks -/
def pick (v : V) : Nat := if v = truth true then 1 else 2
mutual
/-- an expression's value, or its first error -/
def ev (E : Env) : X → V × Int
  | .mk o v s l =>
    if o = 16 then
      (if (evAt E l 0).2 = 0 then (if shared 16 [(evAt E l 0).1] = none then (Vl.no, 14) else evAt E l (pick (evAt E l 0).1)) else (Vl.no, (evAt E l 0).2))
    else if (evL E l).2 = 0 then told E (.mk o v s l) (evL E l).1 else (Vl.no, (evL E l).2)
def evL (E : Env) : List X → List V × Int
  | [] => ([], 0)
  | x :: r => if (ev E x).2 = 0 then (if (evL E r).2 = 0 then ((ev E x).1 :: (evL E r).1, 0) else ([], (evL E r).2)) else ([], (ev E x).2)
def evAt (E : Env) : List X → Nat → V × Int
  | [], _ => (Vl.no, 0)
  | x :: _, 0 => ev E x
  | _ :: r, i + 1 => evAt E r i
end
/-- the machine: the way (the innermost first; a part, how many of its parts were gone into), the values (the last ones first) -/
def mrun (E : Env) : Nat → List (X × Nat) → List V → Option (V × Int)
  | _, [], vs => some (vs.headD Vl.no, 0)
  | 0, _ :: _, _ => none
  | f + 1, (p, d) :: W, vs =>
    if p.op = 16 ∧ 0 < d then
      (if shared 16 [vs.headD Vl.no] = none then some (Vl.no, 14) else mrun E f ((p.l.getD (pick (vs.headD Vl.no)) Sx.no, 0) :: W) vs.tail)
    else if h : d < p.l.length then mrun E f ((p.l[d], 0) :: (p, d + 1) :: W) vs
    else
      (if (told E p (vs.take p.l.length).reverse).2 = 0 then mrun E f W ((told E p (vs.take p.l.length).reverse).1 :: vs.drop p.l.length) else some (Vl.no, (told E p (vs.take p.l.length).reverse).2))
theorem headD_cons {α : Type} (a d : α) (l : List α) : (a :: l).headD d = a := rfl
theorem mrun_mono (E : Env) : ∀ (f : Nat) (W : List (X × Nat)) (vs : List V) (R : V × Int), mrun E f W vs = some R → mrun E (f + 1) W vs = some R
  | f, [], vs, R, h => by
    rw [mrun] at h ⊢; exact h
  | 0, _ :: _, vs, R, h => by rw [mrun] at h; cases h
  | f + 1, (p, d) :: W, vs, R, h => by
    rw [mrun] at h ⊢
    split
    · rename_i h1
      rw [if_pos h1] at h
      split
      · rename_i h2; rw [if_pos h2] at h; exact h
      · rename_i h2; rw [if_neg h2] at h; exact mrun_mono E f _ _ R h
    · rename_i h1
      rw [if_neg h1] at h
      split
      · rename_i h2; rw [dif_pos h2] at h; exact mrun_mono E f _ _ R h
      · rename_i h2
        rw [dif_neg h2] at h
        split
        · rename_i h3; rw [if_pos h3] at h; exact mrun_mono E f _ _ R h
        · rename_i h3; rw [if_neg h3] at h; exact h
theorem mrun_more (E : Env) (f : Nat) (W : List (X × Nat)) (vs : List V) (R : V × Int) (h : mrun E f W vs = some R) : ∀ k, mrun E (f + k) W vs = some R
  | 0 => h
  | k + 1 => mrun_mono E (f + k) W vs R (mrun_more E f W vs R h k)
/-- what follows a part's value, or its error -/
def Fol (E : Env) (r : V × Int) (f : Nat) (W : List (X × Nat)) (vs : List V) (R : V × Int) : Prop := (r.2 = 0 → mrun E f W (r.1 :: vs) = some R) ∧ (r.2 ≠ 0 → R = (Vl.no, r.2))
theorem evL_len (E : Env) : ∀ l, (evL E l).2 = 0 → (evL E l).1.length = l.length
  | [], _ => rfl
  | x :: r, h => by
    rw [evL] at h ⊢
    by_cases h1 : (ev E x).2 = 0
    · rw [if_pos h1] at h ⊢
      by_cases h2 : (evL E r).2 = 0
      · rw [if_pos h2] at h ⊢
        show (_ :: (evL E r).1).length = _
        rw [List.length_cons, List.length_cons, evL_len E r h2]
      · rw [if_neg h2] at h; exact absurd h h2
    · rw [if_neg h1] at h; exact absurd h h1
theorem if_three {o : Int} {v : V} {s : ByteArray} {l : List X} (hr : Sx.right (.mk o v s l) = true) (h16 : o = 16) : l.length = 3 := by
  rw [Sx.right_eq, Bool.and_eq_true, decide_eq_true_eq] at hr
  have h := hr.1
  have e : Sx.count (X.mk o v s l).op = 3 := by show Sx.count o = 3; rw [h16]; rfl
  rw [e] at h
  have h2 : ((l.length : Nat) : Int) = 3 := h
  omega
mutual
theorem mrun_ev (E : Env) : ∀ (x : X), Sx.right x = true → ∃ n, ∀ f W vs R, Fol E (ev E x) f W vs R → mrun E (f + n) ((x, 0) :: W) vs = some R
  | .mk o v s l, hr => by
    have hsub := (Ty.right_sub hr).1
    by_cases h16 : o = 16
    · have hl3 := if_three hr h16
      match l, hl3, hsub with
      | [a, b, c], _, hsub =>
        simp only [Sx.rightL, Bool.and_eq_true] at hsub
        obtain ⟨na, ha⟩ := mrun_ev E a hsub.1
        obtain ⟨nb, hb⟩ := mrun_ev E b hsub.2.1
        obtain ⟨nc, hc⟩ := mrun_ev E c hsub.2.2.1
        refine ⟨nb + nc + 1 + na + 1, fun f W vs R hF => ?_⟩
        rw [show f + (nb + nc + 1 + na + 1) = (f + nb + nc + 1 + na) + 1 by omega]
        rw [mrun, if_neg (by omega), dif_pos (show 0 < (X.mk o v s [a, b, c]).l.length by show 0 < 3; omega)]
        show mrun E (f + nb + nc + 1 + na) ((a, 0) :: (X.mk o v s [a, b, c], 1) :: W) vs = _
        have e0 : evAt E [a, b, c] 0 = ev E a := by rw [evAt]
        have eX : ev E (.mk o v s [a, b, c]) = if (ev E a).2 = 0 then (if shared 16 [(ev E a).1] = none then (Vl.no, 14) else evAt E [a, b, c] (pick (ev E a).1)) else (Vl.no, (ev E a).2) := by
          rw [ev, if_pos h16, e0]
        rw [eX] at hF
        refine ha _ _ _ _ ⟨fun h0 => ?_, fun h0 => ?_⟩
        · rw [if_pos h0] at hF
          rw [mrun, if_pos ⟨h16, by omega⟩, headD_cons]
          by_cases hs : shared 16 [(ev E a).1] = none
          · rw [if_pos hs] at hF ⊢
            rw [hF.2 (by decide)]
          · rw [if_neg hs] at hF ⊢
            show mrun E (f + nb + nc) (([a, b, c].getD (pick (ev E a).1) Sx.no, 0) :: W) vs = _
            unfold pick at hF ⊢
            by_cases ht : (ev E a).1 = truth true
            · rw [if_pos ht] at hF ⊢
              have e1 : evAt E [a, b, c] 1 = ev E b := by rw [evAt, evAt]
              rw [e1] at hF
              show mrun E (f + nb + nc) ((b, 0) :: W) vs = _
              exact mrun_more E _ _ _ _ (hb f W vs R hF) nc
            · rw [if_neg ht] at hF ⊢
              have e1 : evAt E [a, b, c] 2 = ev E c := by rw [evAt, evAt, evAt]
              rw [e1] at hF
              show mrun E (f + nb + nc) ((c, 0) :: W) vs = _
              rw [show f + nb + nc = (f + nc) + nb by omega]
              exact mrun_more E _ _ _ _ (hc f W vs R hF) nb
        · rw [if_neg h0] at hF
          exact hF.2 h0
    · obtain ⟨n, hn⟩ := mrun_evL E (.mk o v s l) h16 l hsub [] rfl
      refine ⟨1 + n, fun f W vs R hF => ?_⟩
      rw [← Nat.add_assoc]
      have eX : ev E (.mk o v s l) = if (evL E l).2 = 0 then told E (.mk o v s l) (evL E l).1 else (Vl.no, (evL E l).2) := by rw [ev, if_neg h16]
      rw [eX] at hF
      refine hn (f + 1) W vs R ⟨fun h0 => ?_, fun h0 => ?_⟩
      · rw [if_pos h0] at hF
        have hlen := evL_len E l h0
        have hll : (X.mk o v s l).l.length = l.length := rfl
        have hrl : (evL E l).1.reverse.length = l.length := by rw [List.length_reverse, hlen]
        rw [mrun, if_neg (fun h => h16 h.1), dif_neg (by rw [hll]; omega), hll]
        have e1 : ((evL E l).1.reverse ++ vs).take l.length = (evL E l).1.reverse := by rw [← hrl, List.take_left]
        have e2 : ((evL E l).1.reverse ++ vs).drop l.length = vs := by rw [← hrl, List.drop_left]
        rw [e1, e2, List.reverse_reverse]
        by_cases ht : (told E (.mk o v s l) (evL E l).1).2 = 0
        · rw [if_pos ht]; exact hF.1 ht
        · rw [if_neg ht, hF.2 ht]
      · rw [if_neg h0] at hF
        exact hF.2 h0
theorem mrun_evL (E : Env) (p : X) (hp : ¬ p.op = 16) : ∀ (l : List X), Sx.rightL l = true → ∀ pre, p.l = pre ++ l → ∃ n, ∀ f W vs R, ((evL E l).2 = 0 → mrun E f ((p, p.l.length) :: W) ((evL E l).1.reverse ++ vs) = some R) ∧ ((evL E l).2 ≠ 0 → R = (Vl.no, (evL E l).2)) → mrun E (f + n) ((p, pre.length) :: W) vs = some R
  | [], _, pre, hpre => by
    refine ⟨0, fun f W vs R h => ?_⟩
    have e : pre.length = p.l.length := by rw [hpre, List.append_nil]
    rw [e]
    exact h.1 rfl
  | x :: r, hr, pre, hpre => by
    rw [Sx.rightL, Bool.and_eq_true] at hr
    obtain ⟨nx, hx⟩ := mrun_ev E x hr.1
    obtain ⟨nr, hrr⟩ := mrun_evL E p hp r hr.2 (pre ++ [x]) (by rw [hpre, List.append_assoc]; rfl)
    refine ⟨nr + nx + 1, fun f W vs R h => ?_⟩
    have hlt : pre.length < p.l.length := by rw [hpre, List.length_append, List.length_cons]; omega
    have hat : p.l[pre.length] = x := by
      have : p.l[pre.length]? = some x := by rw [hpre, List.getElem?_append_right (Nat.le_refl _), Nat.sub_self]; rfl
      rw [List.getElem?_eq_getElem hlt] at this
      exact Option.some.inj this
    rw [show f + (nr + nx + 1) = (f + nr + nx) + 1 by omega, mrun, if_neg (fun h => hp h.1), dif_pos hlt, hat]
    rw [evL] at h
    refine hx _ _ _ _ ⟨fun h0 => ?_, fun h0 => ?_⟩
    · rw [if_pos h0] at h
      have hl1 : (pre ++ [x]).length = pre.length + 1 := by rw [List.length_append]; rfl
      rw [← hl1]
      refine hrr f W _ R ⟨fun h1 => ?_, fun h1 => ?_⟩
      · rw [if_pos h1] at h
        have := h.1 rfl
        rw [List.reverse_cons, List.append_assoc] at this
        exact this
      · rw [if_neg h1] at h
        exact h.2 h1
    · rw [if_neg h0] at h
      exact h.2 h0
end
/-- the machine finds an expression's value, or its error -/
theorem mrun_all (E : Env) (x : X) (hr : Sx.right x = true) : ∃ n, mrun E n [(x, 0)] [] = some (if (ev E x).2 = 0 then ev E x else (Vl.no, (ev E x).2)) := by
  obtain ⟨n, hn⟩ := mrun_ev E x hr
  refine ⟨0 + n, hn 0 [] [] _ ⟨fun h => ?_, fun h => ?_⟩⟩
  · rw [if_pos h, mrun, headD_cons, ← h]
  · rw [if_neg h]
end Ev
end Go.Proofs.YtmkllibfblacfaaGreatDoor
