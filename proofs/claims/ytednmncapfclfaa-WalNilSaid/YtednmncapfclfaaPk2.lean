/-
  Texts of the layers, part 2: HTail, DskWrite, DskCopy, OctOwn, DskBlk, DskActs, DskLives, ListAt, RefObj, RefOps, RefRead, RefFlush, RefCrash, RefNew, DskTwo, OneDsk, RecAt.
-/
import Derived.Test.YtednmncapfclfaaPk1
import Derived.StillTail
import Derived.OrdersHeld
import Derived.Laws.Tables
import Derived.Laws.Cover3
import Derived.Deep.RegionHeld3
import Derived.Sort.AtCall
import Derived.WalkKit
import Derived.WalkSpells
import Derived.WalkLawsBesides
import Derived.Laws.BytesArg
import Derived.Deep.Draws
import Derived.Lib.Hide
import Derived.Below
import Derived.OwnWalk
import Derived.Deep.DeepAppendWide
import Derived.ArgAppend
import Derived.BigRegion
import Derived.BigQuiet
import Derived.Laws.DeepStrings4
import Derived.Lib.SliceRun
import Derived.Maps.AppendAt
/-
  A region that draws its order: first operations that only read (under a condition S on the world), then some that write and keep S, then last ones that need not keep it; the second and third in one forced order. One walk, in the order of the text.
-/
namespace Go.Proofs.Ytednmncapfclfaa
open Go.RowKit

section
variable {P : Program} {ops : Array Oper} {md : Region.Mode} {S : World → Prop} {Q : Exit → Act → World → Prop}
/-- operations that only read, one by one -/
def wpYield (P : Program) (ops : Array Oper) (S : World → Prop) (R : Act → Prop) : List Oper → Act → Prop
  | [], a => R a
  | o :: rest, a => ∃ v, YieldsIf P ops S o v a ∧ wpYield P ops S R rest (a.put o.dst v)
/-- operations that keep S, one by one -/
def wpKeep (P : Program) (ops : Array Oper) (S : World → Prop) (Q : Exit → Act → World → Prop) (R : Act → World → Prop) (i : Nat) : Nat → Act → World → Prop
  | 0, a, w => R a w
  | f + 1, a, w => wpOp P ops Q i (fun a' w' => S w' ∧ wpKeep P ops S Q R (i + 1) f a' w') a w
/-- whatever order is picked among the first n, S kept -/
def HeadH (P : Program) (md : Region.Mode) (ops : Array Oper) (S : World → Prop) (Q : Exit → Act → World → Prop) (n : Nat) (L : Array Bool → Act → World → Prop) : Nat → Array Bool → Act → World → Prop
  | 0, listed, a, w => L listed a w
  | f + 1, listed, a, w => Region.ready md ops listed ≠ [] ∧ ∀ i ∈ Region.ready md ops listed, i < n ∧ wpOp P ops Q i (fun a' w' => S w' ∧ HeadH P md ops S Q n L f (listed.setIfInBounds i true) a' w') a w
theorem headH_any {n g : Nat} {L : Array Bool → Act → World → Prop} (hL : ∀ listed a w, L listed a w → wpAny P md ops Q g listed a w) :
    ∀ (f : Nat) (listed : Array Bool) (a : Act) (w : World), HeadH P md ops S Q n L f listed a w → wpAny P md ops Q (f + g) listed a w := by
  intro f
  induction f with
  | zero => intro listed a w h; rw [Nat.zero_add]; exact hL _ _ _ h
  | succ f ih =>
    intro listed a w h
    rw [show f + 1 + g = (f + g) + 1 by omega]
    exact ⟨fun h0 => absurd h0 h.1, fun i hi => wpOp_mono (fun a' w' k => ih _ a' w' k.2) (h.2 i hi).2⟩
theorem headH_first {n i : Nat} {oi : Oper} {v : Value} {L : Array Bool → Act → World → Prop} (hi : ops[i]? = some oi) (hsel : ∀ (j : Nat) (o : Oper) cs b, ops[j]? = some o → o.op ≠ .select cs b)
    (hQ : ∀ c a w, Q (.panic c) (a.put oi.dst v) w → Q (.panic c) a w)
    (hs : Region.sinkB md ops n = true) (hc : Region.chainB md ops n = true) (hn : n < ops.size) (hin : i < n) (hdone : ∀ listed a w, L listed a w → ∀ j ∈ Region.ready md ops listed, n ≤ j) :
    ∀ (f : Nat) (listed : Array Bool) (a : Act) (w : World), HeadInv md ops n listed →
      (∀ j oj, ops[j]? = some oj → j ≠ i → listed.getD j true = false → (∀ e ∈ oj.after, Region.binds md e = true → e.on ≠ i) → oi.apart ops oj = true) →
      i ∈ Region.ready md ops listed → YieldsIf P ops S oi v a → S w → HeadH P md ops S Q n L f (listed.setIfInBounds i true) (a.put oi.dst v) w → HeadH P md ops S Q n L (f + 1) listed a w := by
  intro f
  induction f with
  | zero =>
    intro listed a w inv _ hr hy hS H
    have hun := (mem_ready.1 hr).1
    refine ⟨fun h => (by rw [h] at hr; cases hr), fun j hj => ?_⟩
    have hjn : j < n := Nat.lt_of_not_le fun h => absurd hj (tail_waits hs hc hn inv _ i rfl hin hun j h)
    refine ⟨hjn, ?_⟩
    by_cases hji : j = i
    · subst hji; exact hy.wpOp hi hS ⟨hS, H⟩
    · have := hdone _ _ _ H j (ready_mono hj hji)
      omega
  | succ f ih =>
    intro listed a w inv hfree hr hy hS H
    have hun := (mem_ready.1 hr).1
    refine ⟨fun h => (by rw [h] at hr; cases hr), fun j hj => ?_⟩
    have hjn : j < n := Nat.lt_of_not_le fun h => absurd hj (tail_waits hs hc hn inv _ i rfl hin hun j h)
    refine ⟨hjn, ?_⟩
    by_cases hji : j = i
    · subst hji; exact hy.wpOp hi hS ⟨hS, H⟩
    · have h1 := (H.2 j (ready_mono hj hji)).2
      obtain ⟨hjun, oj, hoj, hall⟩ := mem_ready.1 hj
      have hnot : ∀ e ∈ oj.after, Region.binds md e = true → e.on ≠ i := fun e he hb heq => by
        have h2 := hall e he hb
        rw [heq, getD_both hun] at h2
        cases h2
      have h2 := wpOp_putIf hoj (hfree j oj hoj hji hjun hnot) (fun cs b => hsel i oi cs b hi) (fun cs b => hsel j oj cs b hoj) hQ hy h1
      refine wpOp_mono (fun a' w' h3 => ⟨h3.2.1, ih (listed.setIfInBounds j true) a' w' (inv.set hj hjn) (fun k ok hk hki hunk hno => hfree k ok hk hki ?_ hno) (ready_mono hr (Ne.symm hji)) h3.1 h3.2.1 ?_⟩) h2
      · by_cases hjk : j = k
        · subst hjk; exact hjun
        · rw [getD_set_ne true hjk] at hunk; exact hunk
      · rw [Array.setIfInBounds_comm _ _ hji]
        exact h3.2.2
/-- those that keep S, in their forced order -/
theorem headH_seq {n : Nat} {R : Act → World → Prop} : ∀ (f k : Nat) (g : Nat) (listed : Array Bool) (a : Act) (w : World), k + f = n → Region.seqB md ops (f + g) k listed = true → wpKeep P ops S Q R k f a w →
    HeadH P md ops S Q n (fun listed' a' w' => Region.seqB md ops g n listed' = true ∧ R a' w') f listed a w := by
  intro f
  induction f with
  | zero => intro k g listed a w hk hB h; obtain rfl : k = n := by omega
            exact ⟨by simpa using hB, h⟩
  | succ f ih =>
    intro k g listed a w hk hB h
    rw [show f + 1 + g = (f + g) + 1 by omega] at hB
    simp only [Region.seqB, Bool.and_eq_true, decide_eq_true_eq] at hB
    refine ⟨fun h0 => (by rw [hB.1] at h0; cases h0), fun i hi => ?_⟩
    rw [hB.1] at hi
    obtain rfl : i = k := by simpa using hi
    exact ⟨by omega, wpOp_mono (fun a' w' h3 => ⟨h3.1, ih (i + 1) g _ a' w' (by omega) hB.2 h3.2⟩) h⟩
theorem headH_lex {n g : Nat} {R : Act → World → Prop} {w : World} (hsel : Region.noSelect ops = true) (hQ : ∀ c (d : Option Tmp) v a w, Q (.panic c) (a.put d v) w → Q (.panic c) a w) (hs : Region.sinkB md ops n = true) (hc : Region.chainB md ops n = true) (hn : n < ops.size) (hS : S w) :
    ∀ (l : List Oper) (k f : Nat) (listed : Array Bool) (a : Act), (∀ j, j < l.length → l[j]? = ops[k + j]?) → k + l.length + f = n → HeadInv md ops n listed →
    Region.lexHead md ops (f + g) l.length k listed = true → wpYield P ops S (fun a' => wpKeep P ops S Q R (k + l.length) f a' w) l a →
    HeadH P md ops S Q n (fun listed' a' w' => Region.seqB md ops g n listed' = true ∧ R a' w') (l.length + f) listed a w := by
  intro l
  induction l with
  | nil =>
    intro k f listed a _ hk _ hB h
    rw [List.length_nil, Nat.zero_add]
    exact headH_seq f k g listed a w (by simpa using hk) (by simpa [Region.lexHead] using hB) (by simpa [wpYield] using h)
  | cons o l ih =>
    intro k f listed a hl hk inv hB h
    have h0 : ops[k]? = some o := by simpa using (hl 0 (by simp)).symm
    simp only [List.length_cons, Region.lexHead, Bool.and_eq_true] at hB
    obtain ⟨⟨hr, hf⟩, hB'⟩ := hB
    have hkn : k < n := by simp only [List.length_cons] at hk; omega
    have hr' : k ∈ Region.ready md ops listed := by simpa using hr
    obtain ⟨v, hy, hK⟩ := h
    rw [List.length_cons, show l.length + 1 + f = (l.length + f) + 1 by omega]
    refine headH_first h0 (Region.noSelect_spec hsel) (fun c a w => hQ c o.dst v a w) hs hc hn hkn (fun listed' a' w' hL => seqB_ready hL.1) (l.length + f) listed a w inv (Region.free_spec h0 hf) hr' hy hS
      (ih (k + 1) f _ _ (fun j hj => by have := hl (j + 1) (by simp; omega); simpa [Nat.add_assoc, Nat.add_comm 1 j] using this) (by simp only [List.length_cons] at hk; omega) (inv.set hr' hkn) hB' ?_)
    rw [List.length_cons, show k + (l.length + 1) = k + 1 + l.length by omega] at hK
    exact hK
/-- the law: m that only read, n - m that keep S, the rest -/
theorem wp_region_held_tail {id : Nat} {a : Act} {w : World} {l : List Oper} (m n : Nat) (hmn : m ≤ n) (hm : P.follows .mixedOrders = true) (hQ : ∀ c (d : Option Tmp) v a w, Q (.panic c) (a.put d v) w → Q (.panic c) a w)
    (hB : (Region.noSelect l.toArray && decide (n < l.toArray.size) && Region.sinkB .any l.toArray n && Region.chainB .any l.toArray n && Region.lexHead .any l.toArray (n - m + (l.toArray.size - n)) m 0 (Array.replicate l.toArray.size false)) = true) (hS : S w.drew)
    (h : wpYield P l.toArray S (fun a' => wpKeep P l.toArray S Q (fun a'' w'' => wpList P l.toArray Q (l.drop n) a'' w'') m (n - m) a' w.drew) (l.take m) a) : (Code.region id l.toArray true).wp P Q a w := by
  simp only [Bool.and_eq_true, decide_eq_true_eq] at hB
  obtain ⟨⟨⟨⟨hsel, hn⟩, hs⟩, hc⟩, hlex⟩ := hB
  have hn' : n < l.length := by simpa using hn
  have htl : (l.take m).length = m := by simp; omega
  have hdl : (l.drop n).length = l.toArray.size - n := by simp
  have inv0 : HeadInv .any l.toArray n (Array.replicate l.toArray.size false) :=
    ⟨by simp, fun j oj _ hl => (by rw [getD_replicate_false] at hl; cases hl), fun t _ ht => getD_in (by simpa using ht) (getD_replicate_false _ _)⟩
  have H := headH_lex (md := .any) (g := l.toArray.size - n) hsel hQ hs hc hn hS (l.take m) 0 (n - m) _ a (fun j hj => by
    have hj' : j < m := by rw [htl] at hj; exact hj
    simp [hj']) (by rw [htl]; omega) inv0 (by rw [htl]; exact hlex) (by rw [htl, Nat.zero_add]; exact h)
  refine wp_region_any hm ?_
  have := headH_any (g := l.toArray.size - n) (fun listed a' w' hL => by
    have := wpAny_of_seq (md := .any) (Q' := Q) (l.drop n) n listed a' w' (fun j => by simp [List.getElem?_drop]) (by rw [hdl]; exact hL.1) hL.2
    rwa [hdl] at this) _ _ _ _ H
  rw [htl, show m + (n - m) + (l.toArray.size - n) = l.toArray.size by omega] at this
  exact this
/-- one step that only reads; its value is found by the walk -/
theorem wpYield_step {R : Act → Prop} {o : Oper} {rest : List Oper} {a : Act} (h : ∃ v, (Region.wanted o (yielded ops a.tmps) = true ∧ ∀ w, S w → (execOp a.eval o).run P w = .ok (.value v) w) ∧ wpYield P ops S R rest (a.put o.dst v)) : wpYield P ops S R (o :: rest) a := by
  obtain ⟨v, h1, h2⟩ := h
  exact ⟨v, .inl h1, h2⟩
theorem wpYield_load {R : Act → Prop} {o : Oper} {rest : List Oper} {a : Act} (hgd : o.guard = none) (ty : TypeId) (x : Operand) (ho : o.op = .load ty x) (b off : Nat) (hx : a.eval x = .pointer (some ⟨b, off, none⟩)) (cs : Array Value)
    (hc : ∀ w, S w → (loadVar ty ⟨b, off, none⟩).run P w = .ok (.agg cs) w) (h : wpYield P ops S R rest (a.put o.dst (.agg cs))) : wpYield P ops S R (o :: rest) a := by
  refine ⟨_, .inl ⟨by simp [Region.wanted, hgd], fun w hw => ?_⟩, h⟩
  unfold execOp
  simp only [ho, hx, Instr.loadAt, Instr.sureAddr, Sem.run_bind, Sem.run_pure, Result.andThen_ok, hc w hw]
theorem wpYield_build {R : Act → Prop} {o : Oper} {rest : List Oper} {a : Act} (hgd : o.guard = none) (t : TypeId) (parts : Array (Nat × Operand)) (ho : o.op = .build t parts) (cells : Array Value) (vs : List (Nat × Value)) (hv : (parts.map fun (i, x) => (i, a.eval x)).toList = vs) (hb : P.built t vs = some cells)
    (h : wpYield P ops S R rest (a.put o.dst (.agg cells))) : wpYield P ops S R (o :: rest) a := by
  refine ⟨_, .inl ⟨by simp [Region.wanted, hgd], fun w _ => ?_⟩, h⟩
  subst hv
  unfold execOp
  simp only [ho, Sem.run_bind, run_build w t _ cells hb, Result.andThen_ok, Sem.run_pure]
/-- one step that keeps S -/
theorem wpKeep_step {R : Act → World → Prop} {i f : Nat} {o : Oper} {a : Act} {w : World} (hi : ops[i]? = some o) (hgd : o.guard = none)
    (h : ∀ K : Act → World → Prop, (∀ a' w', S w' → wpKeep P ops S Q R (i + 1) f a' w' → K a' w') → Oper.wp P o a w K Q) : wpKeep P ops S Q R i (f + 1) a w := by
  show wpOp P ops Q i _ a w
  unfold wpOp
  simp only [hi]
  rw [if_pos (by simp [Region.wanted, hgd])]
  exact .inl (h _ fun a' w' h1 h2 => ⟨h1, h2⟩)
end
end Go.Proofs.Ytednmncapfclfaa

/-
  Layer 4: what Write does.
-/
namespace Go.Proofs.Ytednmncapfclfaa
open Go.RowKit

theorem wp_slice_write {o : Oper} {a : Act} {w : World} {K : Act → World → Prop} {Q : Exit → Act → World → Prop} (x : Operand) (ho : o.op = .buildSlice 68 1 #[(0, x)]) (X : Array Value) (hx : a.eval x = .agg X) (hX : X.size = 513)
    (h : K (a.put o.dst (.slice (some ⟨w.heap.size, 0, none⟩) 1 1)) (w.alloc (.cells X 90))) : Oper.wp Try.prog o a w K Q := by
  unfold Oper.wp execOp
  have e : (#[(0, x)] : Array (Nat × Operand)).map (fun (i, x) => (i, a.eval x)) = #[(0, .agg X)] := by rw [← hx]; simp
  simp only [ho, e, Sem.run_bind, run_slice_write w X hX, Result.andThen_ok]
  exact h
theorem wp_run_append {P : Program} {o : Oper} {a : Act} {w : World} {K : Act → World → Prop} {Q : Exit → Act → World → Prop} (s x : Operand) (t : TypeId)
    (ho : o.op = .call { callee := .builtin .append, args := #[s, x], argTypes := #[t, t] }) (v1 v2 : Value) (hs : a.eval s = v1) (hx : a.eval x = v2) (v' : Value) (w' : World) (hr : (Builtin.append_ #[t, t] o.type #[v1, v2]).run P w = .ok v' w')
    (h : K (a.put o.dst v') w') : Oper.wp P o a w K Q := by
  unfold Oper.wp execOp
  simp only [ho, resolve, invoke, builtin, Sem.run_bind, Sem.run_pure, Result.andThen_ok, List.map_toArray, List.map_cons, List.map_nil, hs, hx, hr]
  exact h
theorem write_info (X : List Value) (h : X.length = 513) : X.toArray.size = 513 := by rw [List.size_toArray, h]

set_option maxRecDepth 100000 in
set_option maxHeartbeats 1600000 in
theorem write_any {w : World} {S : Nat → Prop} {p gn gk cn ck cap : Nat} {la : Option Addr} {d : Dk.D} (h : DiskIn w S p gn gk cn ck la cap d) (i : Int) (s : ByteArray) (hW : d.W.length ≤ 1000000) :
    Calls Try.prog 31 #[.pointer (some ⟨p, 0, none⟩), .int .i64 i, .string s] w fun e w' => e = .returned (.int .i64 (Dk.writeE d i s)) ∧ DiskNext w' (fun k => S k ∨ w.heap.size ≤ k) p (Dk.write d i s) la ∧ Only S w w' := by
  have ca := asked_any h.head h.ok
  have ch := has_any h.head i
  have hmono := diskIn_mono (S' := fun k => S k ∨ w.heap.size ≤ k) h fun k _ hk => .inl hk
  cases hg : d.gone with
  | true =>
    have e1 : Dk.write d i s = d := by unfold Dk.write; rw [if_pos hg]
    have e2 : Dk.writeE d i s = 7 := by unfold Dk.writeE; rw [if_pos hg]
    rw [hg] at ca
    rw [e1, e2]
    have HH := Lib.hid (And.intro ca hmono); clear ca ch h hmono e1 e2 hg hW
    go_enter Try.func31, Try.ntmps31
    go_wp2_with fail
    refine HH.out.1.mono ?_
    rintro e _ ⟨rfl, rfl⟩
    go_wp2_with fail
    go_ret
    exact ⟨rfl, ⟨_, _, _, _, _, _, HH.out.2, .inr (.inl rfl)⟩, Only.refl _ _⟩
  | false =>
    rw [hg] at ca
    have hgf : ¬ d.gone = true := by rw [hg]; simp
    by_cases hi : 0 ≤ i ∧ i < d.B.length
    · rw [decide_eq_true hi] at ch
      by_cases hs : s.size = 512
      · have hno : ¬ (¬ (0 ≤ i ∧ i < d.B.length) ∨ s.size ≠ 512) := fun hn => by rcases hn with hn | hn; exact hn hi; exact hn hs
        have ts : ((s.size : Int) != 512) = false := by rw [hs]; rfl
        have cs := spend_any h.head h.ok
        by_cases h0 : d.fuse = 0
        · have e1 : Dk.write d i s = Dk.spent d := by unfold Dk.write Dk.spent; rw [if_neg hgf, if_neg hno, if_pos h0, if_pos h0]
          have e2 : Dk.writeE d i s = 7 := by unfold Dk.writeE; rw [if_neg hgf, if_neg hno, if_pos h0]
          have e3 : Dk.spendE d = 7 := by unfold Dk.spendE; rw [if_pos h0]
          rw [e1, e2]
          rw [e3] at cs
          have HH := Lib.hid (And.intro ca (And.intro ch (And.intro cs (And.intro h hmono)))); clear ca ch cs h hmono e1 e2 e3 hg hgf hno h0 hi hW hs
          go_enter Try.func31, Try.ntmps31
          go_wp2_with fail
          refine HH.out.1.mono ?_
          rintro e _ ⟨rfl, rfl⟩
          go_wp2_with fail
          refine HH.out.2.1.mono ?_
          rintro e _ ⟨rfl, rfl⟩
          go_wp2_with fail
          refine HH.out.2.2.1.mono ?_
          rintro e w1 ⟨rfl, hh1, ho1⟩
          have H1 := Lib.hid (And.intro hh1 ho1); clear hh1 ho1
          go_wp2_with fail
          go_ret
          exact ⟨rfl, ⟨_, _, _, _, _, _, diskIn_spent HH.out.2.2.2.2 H1.out.1 H1.out.2, .inr (.inl rfl)⟩, H1.out.2.mono fun k _ e => e ▸ HH.out.2.2.2.1.sp⟩
        · obtain ⟨j, rfl⟩ : ∃ j : Nat, i = (j : Int) := ⟨i.toNat, by omega⟩
          have hj : j < d.B.length := by omega
          have e1 : Dk.write d j s = ⟨d.B, d.W ++ [(j, s)], Dk.burn d.fuse, d.gone⟩ := by unfold Dk.write; rw [if_neg hgf, if_neg hno, if_neg h0]; rfl
          have e2 : Dk.writeE d j s = 0 := by unfold Dk.writeE; rw [if_neg hgf, if_neg hno, if_neg h0]
          have e3 : Dk.spendE d = 0 := by unfold Dk.spendE; rw [if_neg h0]
          have e4 : Dk.spent d = ⟨d.B, d.W, Dk.burn d.fuse, d.gone⟩ := by unfold Dk.spent; rw [if_neg h0]
          have hok := Dk.write_ok h.ok j s
          rw [e1] at hok
          rw [e1, e2]
          rw [e3] at cs
          have j0 : (0 : Int) ≤ (j : Int) := by omega
          have jB : (j : Int) < (d.B.length : Int) := by omega
          have HH := Lib.hid (And.intro ca (And.intro ch (And.intro cs (And.intro h (And.intro e4 (And.intro hok (And.intro hj (And.intro hs hW)))))))); clear ca ch cs h hmono e1 e2 e3 e4 hg hgf hno h0 hi hok hj hW hs
          go_enter Try.func31, Try.ntmps31
          go_wp2_with fail
          refine HH.out.1.mono ?_
          rintro e w0 ⟨rfl, hw0⟩
          obtain rfl := hw0.symm
          clear hw0
          go_wp2_with fail
          refine HH.out.2.1.mono ?_
          rintro e w0 ⟨rfl, hw0⟩
          obtain rfl := hw0.symm
          clear hw0
          go_wp2_with fail
          refine HH.out.2.2.1.mono ?_
          rintro e w1 ⟨rfl, hh1, ho1⟩
          have hin := diskIn_spent HH.out.2.2.2.1 hh1 ho1
          rw [HH.out.2.2.2.2.1] at hin
          have c0 := head_now hin.head
          have hzo := Dk.over_ok hin.ok.size hin.ok.loose
          have hjo : j < (Dk.over d.B d.W).length := by rw [Dk.over_len]; exact HH.out.2.2.2.2.2.2.1
          have t1 := blocks_there hin.now hzo j hjo
          have hs5 := HH.out.2.2.2.2.2.2.2.1
          have H1 := Lib.hid (And.intro hin (And.intro ho1 (And.intro hzo hjo))); clear hh1 ho1 hin hzo hjo
          go_wp2_with (refine wpList_copy_text rfl (.tmp 34) (.tmp 35) 74 9 rfl 5 Try.underlying74 byte_one gn (j * 512) 512 512 rfl s rfl hs5 t1 ?_)
          have hin := H1.out.1
          have hjB : j < d.B.length := HH.out.2.2.2.2.2.2.1
          generalize hw2 : World.setCells _ _ _ _ = w2
          have HW2 : Hid (HeadAt w2 p gn gk cn ck la cap ⟨d.B, d.W, Dk.burn d.fuse, d.gone⟩ ∧ BlocksAt w2 gn cn ((Dk.over d.B d.W).set j s) ∧ BlocksAt w2 gk ck d.B ∧ LooseAt w2 S p gn gk la cap d.W ∧ Only S w w2) := Lib.hid (by
            rw [← hw2]
            refine ⟨rowV_cellsFar hin.head (fun e => hin.pn e.symm) _ _, blocks_set hin.now H1.out.2.2.1 j H1.out.2.2.2 s hs5, blocksAt_cells hin.kept hin.nk _ _, ?_, ?_⟩
            · exact looseAt_only hin.loose ((Only.refl (fun k => k = gn) w1).setCells (fun _ => rfl) _ _) (by
                rintro a rfl
                rcases hin.loose with ⟨h1, _⟩ | ⟨g, r, h1, _, _, _, _, h6, _⟩
                · cases h1
                · cases h1; exact h6)
            · exact (H1.out.2.1.mono (G := S) fun k _ e => e ▸ HH.out.2.2.2.1.sp).setCells (fun _ => hin.sn) _ _)
          clear hw2 hin t1 c0
          have c0 := head_now HW2.out.1
          have c2 := head_loose HW2.out.1
          have f2 := rowV_frozen HW2.out.1 2
          have hz2 : ∀ b ∈ (Dk.over d.B d.W).set j s, b.size = 512 := Dk.all_set H1.out.2.2.1 j s hs5
          have hj2 : j < ((Dk.over d.B d.W).set j s).length := by rw [List.length_set]; exact H1.out.2.2.2
          have r1 := blocks_range HW2.out.2.1 hz2 j hj2
          have eb : Dk.blk ((Dk.over d.B d.W).set j s) j = s := by rw [Dk.getD_set, if_pos ⟨rfl, H1.out.2.2.2⟩]
          rw [eb] at r1
          have hu := block_under
          have i1 := block_size s hs5
          have hbd := built_write j s hs5
          have HB := Lib.hid (And.intro hz2 (And.intro hj2 eb))
          clear hz2 hj2 eb
          go_wp2_with fail
          refine wp_region_held_tail (S := fun w' => w'.cell? ⟨p, 2, none⟩ = some (.slice la d.W.length cap) ∧ w'.cell? ⟨p, 0, none⟩ = some (.slice (some ⟨gn, 0, none⟩) d.B.length cn) ∧ w'.rangeAt gn (j * 512) (bv s)) 14 16 (by omega) (by kernel_rfl) (fun _ d _ _ _ h => by cases d <;> exact h) (by kernel_rfl) ⟨c2, c0, r1⟩ ?_
          simp only [List.take_succ_cons, List.take_zero, List.drop_succ_cons, List.drop_zero]
          iterate 12
            refine wpYield_step ?_
            apply Exists.intro
            refine ⟨⟨by rfl, fun wx hSx => ?_⟩, ?_⟩
            · go_simp
              with_reducible rfl
            simp only [Act.put, List.setIfInBounds_toArray, List.set_cons_zero, List.set_cons_succ]
          refine wpYield_load rfl _ _ rfl gn (j * 512) rfl (bv s).toArray (fun wx hSx => run_loadVar_mid wx gn (j * 512) _ (bv s) _ hSx.2.2 hu rfl i1) ?_
          simp only [Act.put, List.setIfInBounds_toArray, List.set_cons_zero, List.set_cons_succ]
          refine wpYield_build rfl _ _ rfl (wv (j, s)).toArray _ (by simp [Act.eval]) hbd ?_
          simp only [Act.put, List.setIfInBounds_toArray, List.set_cons_zero, List.set_cons_succ]
          have hap := append_loose (w := (w2.drew).alloc (.cells (wv (j, s)).toArray 90)) (looseAt_only HW2.out.2.2.2.1 (((Only.refl (fun _ => False) w2).drew).alloc _) (fun _ _ h => h)) (fun x hx => (HH.out.2.2.2.1.ok.loose x hx).2) (j, s) hs5 w2.drew.heap.size (rowV_new _ _ _) HH.out.2.2.2.2.2.2.2.2 68 (by have := rowV_lt HW2.out.1; simp; omega) (by obtain ⟨r, hr, _⟩ := HW2.out.2.1; have := rowV_lt hr; simp; omega) (by obtain ⟨r, hr, _⟩ := HW2.out.2.2.1; have := rowV_lt hr; simp; omega)
          obtain ⟨g', cap', r', w5, hrun, hg', hc1, hc2, n1, n2, n3, hS, hsz, ho⟩ := hap
          have ho5 : Only (fun k => S k ∧ k ≠ p ∧ k ≠ gn ∧ k ≠ gk) w2 w5 := ((Only.refl (fun k => S k ∧ k ≠ p ∧ k ≠ gn ∧ k ≠ gk) w2).drew.alloc _).more ho
          have hh5 : HeadAt w5 p gn gk cn ck la cap ⟨d.B, d.W, Dk.burn d.fuse, d.gone⟩ := rowV_only HW2.out.1 ho5 (fun h => h.2.1 rfl)
          have hn5 := blocksAt_only HW2.out.2.1 ho5 (fun h => h.2.2.1 rfl)
          have hk5 := blocksAt_only HW2.out.2.2.1 ho5 (fun h => h.2.2.2 rfl)
          have hr5 := blocks_range hn5 HB.out.1 j HB.out.2.1
          rw [HB.out.2.2] at hr5
          have hk0 : HeadAt ((w2.drew).alloc (.cells (wv (j, s)).toArray 90)) p gn gk cn ck la cap ⟨d.B, d.W, Dk.burn d.fuse, d.gone⟩ := rowV_only (F := fun _ => False) HW2.out.1 (((Only.refl (fun _ => False) w2).drew).alloc (.cells (wv (j, s)).toArray 90)) (fun h => h)
          have hS1 : ((w2.drew).alloc (.cells (wv (j, s)).toArray 90)).cell? ⟨p, 2, none⟩ = some (.slice la d.W.length cap) ∧ ((w2.drew).alloc (.cells (wv (j, s)).toArray 90)).cell? ⟨p, 0, none⟩ = some (.slice (some ⟨gn, 0, none⟩) d.B.length cn) ∧ ((w2.drew).alloc (.cells (wv (j, s)).toArray 90)).rangeAt gn (j * 512) (bv s) :=
            ⟨head_loose (d := ⟨d.B, d.W, Dk.burn d.fuse, d.gone⟩) hk0, head_now (d := ⟨d.B, d.W, Dk.burn d.fuse, d.gone⟩) hk0, World.rangeAt_alloc r1 _⟩
          refine wpKeep_step rfl rfl fun K hK => wp_slice_write _ rfl (wv (j, s)).toArray rfl (by rw [List.size_toArray, wv_len _ hs5]) (hK _ _ hS1 ?_)
          refine wpKeep_step rfl rfl fun K hK => wp_run_append (.tmp 41) (.tmp 51) 68 rfl _ _ rfl rfl _ _ hrun (hK _ _ ⟨head_loose (d := ⟨d.B, d.W, Dk.burn d.fuse, d.gone⟩) hh5, head_now (d := ⟨d.B, d.W, Dk.burn d.fuse, d.gone⟩) hh5, hr5⟩ ?_)
          show wpList _ _ _ _ _ w5
          simp only [Act.put, List.setIfInBounds_toArray]
          have f25 := rowV_frozen hh5 2
          have c25 := head_loose hh5
          have hst := rowV_stored hh5 2 (.slice (some ⟨g', 0, none⟩) (d.W.length + 1) cap')
          have H5 := Lib.hid (And.intro hst (And.intro hn5 (And.intro hk5 (And.intro hg' (And.intro hc1 (And.intro hc2 (And.intro n1 (And.intro n2 (And.intro n3 (And.intro hS (And.intro hsz ho5)))))))))))
          clear hst hn5 hk5 hg' hc1 hc2 n1 n2 n3 hS hsz ho5 hh5 hr5 hk0 hS1 hrun ho c0 c2 f2 r1 hu i1 hbd
          go_wp2_with fail
          go_ret
          obtain ⟨hst, hn5, hk5, hg', hc1, hc2, n1, n2, n3, hS, hsz, ho5⟩ := H5.out
          have hin := HH.out.2.2.2.1
          have hoW : Only S w w5 := HW2.out.2.2.2.2.trans (ho5.mono (G := S) fun k _ h => h.1) fun _ _ h => h
          have hp5 : Only (fun k => k = p) w5 (w5.setCell ⟨p, 2, none⟩ (.slice (some ⟨g', 0, none⟩) (d.W.length + 1) cap')) := (Only.refl (fun k => k = p) w5).setCell (g := p) (i := 2) (fun _ => rfl) _
          have hz5 : w.heap.size ≤ w2.heap.size := HW2.out.2.2.2.2.size
          have hSg : S g' ∨ w.heap.size ≤ g' := hS.elim .inl fun h => .inr (by have h2 : w2.heap.size ≤ g' := (by simp at h; omega); omega)
          refine ⟨rfl, ⟨gn, gk, cn, ck, some ⟨g', 0, none⟩, cap', ⟨HH.out.2.2.2.2.2.1, ?_, ?_, ?_, .inr ⟨g', r', rfl, ?_, ?_, hc2, n1, n2, n3, ?_⟩, hin.pn, hin.pk, hin.nk, .inl hin.sp, .inl hin.sn, .inl hin.sk⟩, .inr (.inr ⟨g', rfl, hSg⟩)⟩, hoW.trans (hp5.mono (G := S) fun k _ e => e ▸ hin.sp) fun _ _ h => h⟩
          · have e : (d.W ++ [(j, s)]).length = d.W.length + 1 := by simp
            unfold HeadAt
            rw [e]
            exact hst
          · show BlocksAt _ gn cn (Dk.over d.B (d.W ++ [(j, s)]))
            rw [Dk.over_snoc]
            exact blocksAt_only hn5 hp5 (fun e => hin.pn e)
          · exact blocksAt_only hk5 hp5 (fun e => hin.pk e)
          · exact rowV_only hg' hp5 (fun e => n1 e)
          · simpa using hc1
          · intro _
            refine ⟨hS.elim .inl fun h => .inr ?_, by simpa using hsz⟩
            have : w2.heap.size ≤ g' := by simp at h; omega
            omega
      · have e1 : Dk.write d i s = d := by unfold Dk.write; rw [if_neg hgf, if_pos (.inr hs)]
        have e2 : Dk.writeE d i s = 2 := by unfold Dk.writeE; rw [if_neg hgf, if_pos (.inr hs)]
        have ts : ((s.size : Int) != 512) = true := by rw [bne_iff_ne]; omega
        rw [e1, e2]
        have HH := Lib.hid (And.intro ca (And.intro ch hmono)); clear ca ch h hmono e1 e2 hg hgf hW hs hi
        go_enter Try.func31, Try.ntmps31
        go_wp2_with fail
        refine HH.out.1.mono ?_
        rintro e _ ⟨rfl, rfl⟩
        go_wp2_with fail
        refine HH.out.2.1.mono ?_
        rintro e _ ⟨rfl, rfl⟩
        go_wp2_with fail
        go_ret
        exact ⟨rfl, ⟨_, _, _, _, _, _, HH.out.2.2, .inr (.inl rfl)⟩, Only.refl _ _⟩
    · have e1 : Dk.write d i s = d := by unfold Dk.write; rw [if_neg hgf, if_pos (.inl hi)]
      have e2 : Dk.writeE d i s = 2 := by unfold Dk.writeE; rw [if_neg hgf, if_pos (.inl hi)]
      rw [decide_eq_false hi] at ch
      rw [e1, e2]
      have HH := Lib.hid (And.intro ca (And.intro ch hmono)); clear ca ch h hmono e1 e2 hg hgf hW hi
      go_enter Try.func31, Try.ntmps31
      go_wp2_with fail
      refine HH.out.1.mono ?_
      rintro e _ ⟨rfl, rfl⟩
      go_wp2_with fail
      refine HH.out.2.1.mono ?_
      rintro e _ ⟨rfl, rfl⟩
      go_wp2_with fail
      go_ret
      exact ⟨rfl, ⟨_, _, _, _, _, _, HH.out.2.2, .inr (.inl rfl)⟩, Only.refl _ _⟩
end Go.Proofs.Ytednmncapfclfaa

/-
  Layer 4: what Copy does.
-/
namespace Go.Proofs.Ytednmncapfclfaa
open Go.RowKit

theorem wpList_run_append {P : Program} {ops : Array Oper} {rest : List Oper} {o : Oper} {a : Act} {w : World} {Q : Exit → Act → World → Prop} (hgd : o.guard = none) (s x : Operand) (t : TypeId)
    (ho : o.op = .call { callee := .builtin .append, args := #[s, x], argTypes := #[t, t] }) (v1 v2 : Value) (hs : a.eval s = v1) (hx : a.eval x = v2) (v' : Value) (w' : World) (hr : (Builtin.append_ #[t, t] o.type #[v1, v2]).run P w = .ok v' w')
    (h : wpList P ops Q rest (a.put o.dst v') w') : wpList P ops Q (o :: rest) a w :=
  wpList_plain hgd fun _ hK => wp_run_append s x t ho v1 v2 hs hx v' w' hr (hK _ _ h)
theorem eql_slice_nil {P : Program} (w : World) (t e0 : TypeId) (a : Addr) (l c : Nat) (h : P.underlying t = some (.slice e0)) : (binOp .eql t (.slice (some a) l c) (.slice none 0 0)).run P w = .ok (.bool false) w := by
  have e : binOp .eql t (.slice (some a) l c) (.slice none 0 0) = (do pure (Value.bool (← Op.equal t (.slice (some a) l c) (.slice none 0 0)))) := rfl
  rw [e, Sem.run_bind, run_equal_slice_nil w t e0 (some a) l c h]
  rfl
/-- what a clone of blocks is -/
def ClonePost (B : List ByteArray) (w : World) (e : Ending) (w' : World) : Prop :=
  ∃ g' c', e = .returned (.slice (some ⟨g', 0, none⟩) B.length c') ∧ BlocksAt w' g' c' B ∧ w.heap.size ≤ g' ∧ Below w.heap.size w w'

/-- what Copy answers -/
def CopyPost (d : Dk.D) (w : World) (e : Ending) (w' : World) : Prop := ∃ p', e = .returned (.pointer (some ⟨p', 0, none⟩)) ∧ DiskAt w' (fun k => w.heap.size ≤ k) p' d ∧ Below w.heap.size w w'

theorem copy_disk {w w2 : World} {S : Nat → Prop} {p gn gk cn ck cap g1 c1 g2 c2 : Nat} {la : Option Addr} {d : Dk.D} (h : DiskIn w S p gn gk cn ck la cap d) (hb : Below w.heap.size w w2) (h1 : BlocksAt w2 g1 c1 (Dk.over d.B d.W)) (h2 : BlocksAt w2 g2 c2 d.B) (n1 : w.heap.size ≤ g1) (n2 : w.heap.size ≤ g2) (hne : g2 ≠ g1) :
    DiskAt (w2.alloc (.cells #[.slice (some ⟨g1, 0, none⟩) d.B.length c1, .slice (some ⟨g2, 0, none⟩) d.B.length c2, .slice la d.W.length d.W.length, .int .i64 d.fuse, .bool d.gone] 70)) (fun k => w.heap.size ≤ k) w2.heap.size d := by
  have ho : ∀ F : Nat → Prop, Only F w2 (w2.alloc (.cells #[.slice (some ⟨g1, 0, none⟩) d.B.length c1, .slice (some ⟨g2, 0, none⟩) d.B.length c2, .slice la d.W.length d.W.length, .int .i64 d.fuse, .bool d.gone] 70)) := fun F => (Only.refl F w2).alloc _
  obtain ⟨r1, hr1, _⟩ := h1
  obtain ⟨r2, hr2, _⟩ := h2
  have l1 := rowV_lt hr1
  have l2 := rowV_lt hr2
  have hz := hb.size
  refine ⟨g1, g2, c1, c2, la, d.W.length, ⟨h.ok, rowV_new w2 _ [_, _, _, _, _], blocksAt_only ⟨r1, hr1, by assumption⟩ (ho fun _ => False) (fun h => h), blocksAt_only ⟨r2, hr2, by assumption⟩ (ho fun _ => False) (fun h => h), ?_, by omega, by omega, hne, hz, n1, n2⟩⟩
  rcases h.loose with ⟨e1, _, e3⟩ | ⟨g, r, e1, e2, e3, e4, e5, _⟩
  · exact .inl ⟨e1, by rw [e3]; rfl, e3⟩
  · have lg := rowV_lt e2
    exact .inr ⟨g, r, e1, rowV_only (rowV_below e2 hb lg) (ho fun _ => False) (fun h => h), Nat.le_refl _, Nat.le_trans e3 e4, by omega, by omega, by omega, fun h => absurd h (Nat.lt_irrefl _)⟩
theorem diskIn_drew {w : World} {S : Nat → Prop} {p gn gk cn ck cap : Nat} {la : Option Addr} {d : Dk.D} (h : DiskIn w S p gn gk cn ck la cap d) : DiskIn w.drew S p gn gk cn ck la cap d :=
  diskIn_only h ((Only.refl (fun _ => False) w).drew) (fun h => h) (fun h => h) (fun h => h) (fun _ _ h => h)

end Go.Proofs.Ytednmncapfclfaa

/-
  Slices of bytes that a call makes itself: what they hold, as lists; how they become strings.
-/
namespace Go.Proofs.Ytednmncapfclfaa
open Go.RowKit

/-- the slice v of bytes (element type E), from block B on, holds l -/
def OwnsB (w : World) (B E : Nat) (v : Value) (l : List UInt8) : Prop := w.ownsRow B E 1 v l.length (l.map fun b => Value.int .u8 (b.toNat : Int))

theorem ownsB_nil (w : World) (B E : Nat) : OwnsB w B E (.slice none 0 0) [] := World.ownsRow_nil _ _ _ _

theorem ownsB_conv {P : Program} {w : World} {B E : Nat} {v : Value} {l : List UInt8} (h : OwnsB w B E v l) {src dst : TypeId}
    (hs : P.underlying src = some (.slice E)) (he : P.underlying E = some (.int .u8)) (hd : P.underlying dst = some .string) :
    (convert src dst v).run P w = .ok (.string ⟨l.toArray⟩) w := by
  obtain ⟨hlen, ⟨rfl, h0⟩ | ⟨g, cap, cur, rfl, hBg, hg, hnc, hcm, hcs, htake⟩⟩ := h
  · have hl : l = [] := List.eq_nil_of_length_eq_zero h0
    subst hl
    exact run_convert_bytes_nil w src E hs he 0 0 dst hd
  · have hc := run_convert_bytes_arg w src E hs he g 0 l.length cap (l.map fun b => (b.toNat : Int)) (by simp) (fun i hi => by
      rw [Nat.zero_add, cell_of_row w g i cur E (0, 0) hg]
      have h1 : cur.toList[i]? = (cur.toList.take (l.length * 1))[i]? := by rw [List.getElem?_take, if_pos (by omega)]
      have h2 : cur[i]? = cur.toList[i]? := by simp
      rw [h2, h1, htake]
      simp [List.getElem?_eq_getElem hi, List.getD]) dst hd
    rw [hc]
    have e : strOfNums (l.map fun b => (b.toNat : Int)) = ⟨l.toArray⟩ := by
      unfold strOfNums
      rw [List.map_map]
      have : ∀ l : List UInt8, l.map ((fun n : Int => UInt8.ofNat n.toNat) ∘ fun b : UInt8 => (b.toNat : Int)) = l := fun l => by
        induction l with
        | nil => rfl
        | cons b l ih => rw [List.map_cons, ih]; simp
      rw [this]
    rw [e]

theorem ownsB_row {w : World} {B E : Nat} {v : Value} {l : List UInt8} (h : OwnsB w B E v l) (n : Nat) (o : Obj) :
    ((w.drewN n).alloc o).ownsRow B E 1 v l.length (l.map fun b => Value.int .u8 (b.toNat : Int)) := World.ownsRow.alloc (w := w.drewN n) h o
theorem ownsB_row0 {w : World} {B E : Nat} {v : Value} {l : List UInt8} (h : OwnsB w B E v l) (o : Obj) :
    (w.alloc o).ownsRow B E 1 v l.length (l.map fun b => Value.int .u8 (b.toNat : Int)) := World.ownsRow.alloc h o
theorem cell_one {w : World} {x : Value} {t : TypeId} : ∀ (j : Nat) (u : Value), [x][j]? = some u → (w.alloc (.cells #[x] t)).cell? ((⟨w.heap.size, 0, none⟩ : Addr).add j) = some u := by
  intro j u hj
  match j, hj with
  | 0, hj => simp at hj; subst hj; show (w.alloc (.cells #[x] t)).cell? ⟨w.heap.size, 0, none⟩ = some x; rw [World.cell?_alloc_at _ _ _ _ rfl]; rfl

/-- what an append of one byte leaves -/
theorem ownsB_snoc {w : World} {B E : Nat} {v : Value} {l : List UInt8} {n : Int} (b : UInt8)
    (h : w.ownsRow B E 1 v (l.length + 1) ((l.map fun b => Value.int .u8 (b.toNat : Int)) ++ [.int .u8 n])) (hb : n = (b.toNat : Int)) : OwnsB w B E v (l ++ [b]) := by
  subst hb
  unfold OwnsB; simpa using h

theorem one_cell {k : IntKind} {n : Int} : ∀ u ∈ [Value.int k n], u.oneCell' = true := by intro u hu; simp at hu; subst hu; rfl

/-- what a call makes above what was there, and grows, stays above -/
theorem below_grown {B E : Nat} {w wr w1 : World} {v : Value} {l : List UInt8} {o : Obj} (hb : Below B w wr) (hB : B ≤ wr.heap.size) (hown : OwnsB wr B E v l) (hg : (wr.alloc o).grownBy w1 v.ownBlock) : Below B w w1 :=
  (hb.alloc hB o).grown hg (by simp; omega) (fun j hj => (hown.lt j hj).1)

theorem ownsB_made {w : World} {B E m : Nat} {v : Value} (h : w.ownsRow B E 1 v m (madeCells #[Value.int .u8 0] m).toList) : OwnsB w B E v (List.replicate m 0) := by
  unfold OwnsB
  rw [toList_madeCells_one] at h
  simpa using h
theorem ownsB_cell {w : World} {B E g n cap : Nat} {l : List UInt8} (h : OwnsB w B E (.slice (some ⟨g, 0, none⟩) n cap) l) (hn : l.length = n) (j : Nat) (hj : j < n) :
    ∃ x, w.cell? ⟨g, j, none⟩ = some (.int .u8 x) ∧ w.frozen? ⟨g, j, none⟩ = false := by
  unfold OwnsB at h; rw [hn] at h
  exact ⟨_, by rw [h.cellAt j (by omega), List.getElem?_map, List.getElem?_eq_getElem (by omega)]; rfl, h.frozenAt j⟩
theorem ownsB_stored {w : World} {B E g n cap : Nat} {l l' : List UInt8} (h : OwnsB w B E (.slice (some ⟨g, 0, none⟩) n cap) l) (hn : l.length = n) (j : Nat) (b : UInt8) (he : l.set j b = l') :
    OwnsB (w.setCell ⟨g, j, none⟩ (.int .u8 (b.toNat : Int))) B E (.slice (some ⟨g, 0, none⟩) n cap) l' := by
  subst he
  unfold OwnsB at h ⊢; rw [hn] at h
  have := (h.stored j (.int .u8 (b.toNat : Int))).1
  rw [List.length_set, hn, List.map_set]; exact this
theorem ownsB_ge {w : World} {B E g n cap : Nat} {l : List UInt8} (h : OwnsB w B E (.slice (some ⟨g, 0, none⟩) n cap) l) : B ≤ g := (h.lt g rfl).1
/-- one byte in a new block, as a string -/
theorem conv_one {P : Program} (w : World) (b : UInt8) {src dst E : TypeId}
    (hs : P.underlying src = some (.slice E)) (he : P.underlying E = some (.int .u8)) (hd : P.underlying dst = some .string) :
    (convert src dst (.slice (some ⟨w.heap.size, 0, none⟩) 1 1)).run P (w.alloc (.cells #[.int .u8 (b.toNat : Int)] E)) = .ok (.string ⟨#[b]⟩) (w.alloc (.cells #[.int .u8 (b.toNat : Int)] E)) := by
  have ho : OwnsB (w.alloc (.cells #[.int .u8 (b.toNat : Int)] E)) 0 E (.slice (some ⟨w.heap.size, 0, none⟩) 1 1) [b] :=
    ⟨rfl, .inr ⟨w.heap.size, 1, #[.int .u8 (b.toNat : Int)], rfl, Nat.zero_le _, heap_alloc_new w _, Nat.le_refl 1, by unfold maxLen; omega, rfl, rfl⟩⟩
  exact ownsB_conv ho hs he hd
end Go.Proofs.Ytednmncapfclfaa

/-
  Layer 4's laws: a block of two letters, and one with bytes less.
-/
namespace Go.Proofs.Ytednmncapfclfaa
open Go.RowKit

/-- the bytes of a block of two letters -/
def blkL (a b : UInt8) : List UInt8 := List.replicate 256 a ++ List.replicate 256 b
def blkB (a b : UInt8) : ByteArray := ⟨(blkL a b).toArray⟩
theorem blkL_len (a b : UInt8) : (blkL a b).length = 512 := by unfold blkL; rw [List.length_append, List.length_replicate, List.length_replicate]
theorem blkB_size (a b : UInt8) : (blkB a b).size = 512 := by show (blkL a b).toArray.size = 512; rw [List.size_toArray, blkL_len]
theorem blkL_low (a b : UInt8) (k : Nat) (h : k < 256) : (blkL a b).take (k + 1) = (blkL a b).take k ++ [a] := by
  rw [List.take_succ_eq_append_getElem (by rw [blkL_len]; omega)]
  congr 2
  unfold blkL
  rw [List.getElem_append_left (by rw [List.length_replicate]; exact h), List.getElem_replicate]
theorem blkL_high (a b : UInt8) (k : Nat) (h : 256 ≤ k) (h2 : k < 512) : (blkL a b).take (k + 1) = (blkL a b).take k ++ [b] := by
  rw [List.take_succ_eq_append_getElem (by rw [blkL_len]; omega)]
  congr 2
  unfold blkL
  rw [List.getElem_append_right (by rw [List.length_replicate]; exact h), List.getElem_replicate]
theorem take_len (l : List UInt8) (k : Nat) (h : k ≤ l.length) : (l.take k).length = k := by rw [List.length_take]; omega

/-- a block with bytes less -/
def shortB (n : Int) : ByteArray := if n < 0 ∨ 512 < n then ByteArray.empty else (blkB 120 121).extract n.toNat 512
end Go.Proofs.Ytednmncapfclfaa

/-
  Layer 4: each call of the program's disk, told in one form; a call as a value.
-/
namespace Go.Proofs.Ytednmncapfclfaa
open Go.RowKit

theorem diskAt_mono {S S' : Nat → Prop} {w : World} {p : Nat} {d : Dk.D} (h : DiskAt w S p d) (hs : ∀ k, k < w.heap.size → S k → S' k) : DiskAt w S' p d := by
  obtain ⟨_, _, _, _, _, _, h⟩ := h
  exact ⟨_, _, _, _, _, _, diskIn_mono h hs⟩
theorem diskAt_below {S : Nat → Prop} {w w' : World} {p : Nat} {d : Dk.D} (h : DiskAt w S p d) (hb : Below w.heap.size w w') : DiskAt w' S p d := by
  obtain ⟨_, _, _, _, _, _, h⟩ := h
  exact ⟨_, _, _, _, _, _, diskIn_below h hb⟩
theorem diskAt_ok {S : Nat → Prop} {w : World} {p : Nat} {d : Dk.D} (h : DiskAt w S p d) : Dk.Ok d := by
  obtain ⟨_, _, _, _, _, _, h⟩ := h
  exact h.ok
theorem diskAt_lt {S : Nat → Prop} {w : World} {p : Nat} {d : Dk.D} (h : DiskAt w S p d) : p < w.heap.size ∧ S p := by
  obtain ⟨_, _, _, _, _, _, h⟩ := h
  exact ⟨rowV_lt h.head, h.sp⟩

theorem next_at {w : World} {S : Nat → Prop} {p : Nat} {d : Dk.D} {la : Option Addr} (h : DiskNext w S p d la) : DiskAt w S p d := by
  obtain ⟨_, _, _, _, _, _, h, _⟩ := h
  exact ⟨_, _, _, _, _, _, h⟩
theorem next_atL {w : World} {S S' L : Nat → Prop} {p : Nat} {d : Dk.D} {la : Option Addr} (h : DiskNext w S p d la) (hs : ∀ k, S k → S' k) (hL : ∀ k, S' k → L k) (hla : ∀ a, la = some a → L a.block) : DiskAtL w S' L p d := by
  obtain ⟨_, _, _, _, la', _, h, hl⟩ := h
  refine ⟨_, _, _, _, la', _, diskIn_mono h fun k _ hk => hs k hk, fun a ha => ?_⟩
  rcases hl with rfl | rfl | ⟨g, rfl, hg⟩
  · cases ha
  · exact hla a ha
  · cases ha; exact hL _ (hs _ hg)
theorem atL_at {w : World} {S L : Nat → Prop} {p : Nat} {d : Dk.D} (h : DiskAtL w S L p d) : DiskAt w S p d := by
  obtain ⟨_, _, _, _, _, _, h, _⟩ := h
  exact ⟨_, _, _, _, _, _, h⟩
theorem at_atL {w : World} {S : Nat → Prop} {p : Nat} {d : Dk.D} (h : DiskAt w S p d) : DiskAtL w S (fun _ => True) p d := by
  obtain ⟨_, _, _, _, _, _, h⟩ := h
  exact ⟨_, _, _, _, _, _, h, fun _ _ => trivial⟩
section
variable {w : World} {S L : Nat → Prop} {p : Nat} {d : Dk.D}
theorem write_upL (h : DiskAtL w S L p d) (hS : ∀ k, w.heap.size ≤ k → S k) (hL : ∀ k, S k → L k) (i : Int) (s : ByteArray) (hW : d.W.length ≤ 1000000) :
    Calls Try.prog 31 #[.pointer (some ⟨p, 0, none⟩), .int .i64 i, .string s] w fun e w' => e = .returned (.int .i64 (Dk.writeE d i s)) ∧ DiskAtL w' S L p (Dk.write d i s) ∧ Only S w w' := by
  obtain ⟨_, _, _, _, _, _, h, hl⟩ := h
  exact (write_any h i s hW).mono fun e w' ⟨h1, h2, h3⟩ => ⟨h1, next_atL h2 (fun k hk => hk.elim id (hS k)) hL hl, h3⟩
theorem flush_upL (h : DiskAtL w S L p d) (hL : ∀ k, S k → L k) : Calls Try.prog 22 #[.pointer (some ⟨p, 0, none⟩)] w fun e w' => e = .returned (.int .i64 (Dk.flushE d)) ∧ DiskAtL w' S L p (Dk.flush d) ∧ Only S w w' := by
  obtain ⟨_, _, _, _, _, _, h, hl⟩ := h
  exact (flush_any h).mono fun e w' ⟨h1, h2, h3⟩ => ⟨h1, next_atL h2 (fun k hk => hk) hL hl, h3⟩
theorem crash_upL (h : DiskAtL w S L p d) (hS : ∀ k, w.heap.size ≤ k → S k) (hL : ∀ k, S k → L k) (fa : Option Addr) (F : List Int) (fc : Nat) (hF : ReadsI w fa F) (hfa : ∀ a, fa = some a → F ≠ [] → ¬ S a.block) :
    Calls Try.prog 23 #[.pointer (some ⟨p, 0, none⟩), .slice fa F.length fc] w fun e w' => e = .returned (.int .i64 0) ∧ DiskAtL w' S L p (Dk.crash d F) ∧ Only S w w' := by
  obtain ⟨_, _, _, _, _, _, h, hl⟩ := h
  exact (crash_any h fa F fc hF hfa).mono fun e w' ⟨h1, h2, h3⟩ => ⟨h1, next_atL h2 (fun k hk => hk.elim id (hS k)) hL hl, h3⟩
theorem arm_upL (h : DiskAtL w S L p d) (n : Int) (h1 : -9223372036854775808 ≤ n) (h2 : n ≤ 9223372036854775807) :
    Calls Try.prog 27 #[.pointer (some ⟨p, 0, none⟩), .int .i64 n] w fun e w' => e = .returned (.int .i64 (Dk.armE d)) ∧ DiskAtL w' S L p (Dk.arm d n) ∧ Only S w w' := by
  obtain ⟨gn, gk, cn, ck, la, cap, h, hl⟩ := h
  refine (arm_any h.head h.ok n).mono fun e w' ⟨e1, hh, ho⟩ => ⟨e1, ⟨gn, gk, cn, ck, la, cap, ?_, hl⟩, ho.mono fun k _ e => e ▸ h.sp⟩
  have eB : (Dk.arm d n).B = d.B := by unfold Dk.arm; split <;> rfl
  have eW : (Dk.arm d n).W = d.W := by unfold Dk.arm; split <;> rfl
  refine ⟨Dk.arm_ok h.ok n h1 h2, hh, ?_, ?_, ?_, h.pn, h.pk, h.nk, h.sp, h.sn, h.sk⟩
  · rw [eB, eW]; exact blocksAt_only h.now ho (fun e => h.pn e)
  · rw [eB]; exact blocksAt_only h.kept ho (fun e => h.pk e)
  · rw [eW]
    refine looseAt_only h.loose ho ?_
    rintro a rfl
    rcases h.loose with ⟨h1, _⟩ | ⟨g, r, h1, _, _, _, h5, _⟩
    · cases h1
    · cases h1; exact h5
theorem write_up (h : DiskAt w S p d) (hS : ∀ k, w.heap.size ≤ k → S k) (i : Int) (s : ByteArray) (hW : d.W.length ≤ 1000000) :
    Calls Try.prog 31 #[.pointer (some ⟨p, 0, none⟩), .int .i64 i, .string s] w fun e w' => e = .returned (.int .i64 (Dk.writeE d i s)) ∧ DiskAt w' S p (Dk.write d i s) ∧ Only S w w' :=
  (write_upL (at_atL h) hS (fun _ _ => trivial) i s hW).mono fun _ _ ⟨h1, h2, h3⟩ => ⟨h1, atL_at h2, h3⟩
theorem flush_up (h : DiskAt w S p d) : Calls Try.prog 22 #[.pointer (some ⟨p, 0, none⟩)] w fun e w' => e = .returned (.int .i64 (Dk.flushE d)) ∧ DiskAt w' S p (Dk.flush d) ∧ Only S w w' :=
  (flush_upL (at_atL h) (fun _ _ => trivial)).mono fun _ _ ⟨h1, h2, h3⟩ => ⟨h1, atL_at h2, h3⟩
theorem crash_up (h : DiskAt w S p d) (hS : ∀ k, w.heap.size ≤ k → S k) (fa : Option Addr) (F : List Int) (fc : Nat) (hF : ReadsI w fa F) (hfa : ∀ a, fa = some a → F ≠ [] → ¬ S a.block) :
    Calls Try.prog 23 #[.pointer (some ⟨p, 0, none⟩), .slice fa F.length fc] w fun e w' => e = .returned (.int .i64 0) ∧ DiskAt w' S p (Dk.crash d F) ∧ Only S w w' :=
  (crash_upL (at_atL h) hS (fun _ _ => trivial) fa F fc hF hfa).mono fun _ _ ⟨h1, h2, h3⟩ => ⟨h1, atL_at h2, h3⟩
theorem arm_up (h : DiskAt w S p d) (n : Int) (h1 : -9223372036854775808 ≤ n) (h2 : n ≤ 9223372036854775807) :
    Calls Try.prog 27 #[.pointer (some ⟨p, 0, none⟩), .int .i64 n] w fun e w' => e = .returned (.int .i64 (Dk.armE d)) ∧ DiskAt w' S p (Dk.arm d n) ∧ Only S w w' :=
  (arm_upL (at_atL h) n h1 h2).mono fun _ _ ⟨h1, h2, h3⟩ => ⟨h1, atL_at h2, h3⟩
theorem read_up (h : DiskAt w S p d) (i : Int) : Calls Try.prog 24 #[.pointer (some ⟨p, 0, none⟩), .int .i64 i] w fun e w' => e = .returned (.tuple #[.string (Dk.readS d i), .int .i64 (Dk.readE d i)]) ∧ w' = w := by
  obtain ⟨_, _, _, _, _, _, h⟩ := h
  exact read_any h.ok h.head h.now i
theorem len_up (h : DiskAt w S p d) : Calls Try.prog 54 #[.pointer (some ⟨p, 0, none⟩)] w fun e w' => e = .returned (.int .i64 (d.B.length : Int)) ∧ w' = w := by
  obtain ⟨_, _, _, _, _, _, h⟩ := h
  exact len_any h.head h.ok
end

/-- a call -/
structure DAct where
  kind : Int
  i : Int
  a : UInt8
  b : UInt8
  F : List Int
/-- what a call makes of a disk -/
def actD (d : Dk.D) (x : DAct) : Dk.D := if x.kind = 0 then Dk.write d x.i (blkB x.a x.b) else if x.kind = 2 then Dk.flush d else if x.kind = 3 then Dk.arm d x.i else if x.kind = 4 then Dk.crash d x.F else d
theorem actD_W (d : Dk.D) (x : DAct) : (actD d x).W.length ≤ d.W.length + 1 := by
  unfold actD
  repeat' split
  · unfold Dk.write
    repeat' split
    all_goals simp
  · unfold Dk.flush
    repeat' split
    all_goals simp
  · unfold Dk.arm
    split <;> simp
  · show ([] : List (Nat × ByteArray)).length ≤ _; simp
  · omega
/-- the cells of a call as a value -/
def actV (x : DAct) (fa : Option Addr) (fc : Nat) : Array Value := #[.int .i64 x.kind, .int .i64 x.i, .int .u8 (x.a.toNat : Int), .int .u8 (x.b.toNat : Int), .slice fa x.F.length fc]
/-- a call that may stand there: its number fits, its fates lie where the disk does not write -/
structure ActOk (w : World) (S : Nat → Prop) (x : DAct) (fa : Option Addr) : Prop where
  low : -9223372036854775808 ≤ x.i
  high : x.i ≤ 9223372036854775807
  reads : ReadsI w fa x.F
  apart : ∀ a, fa = some a → x.F ≠ [] → ¬ S a.block

end Go.Proofs.Ytednmncapfclfaa

/-
  Layer 4's laws: the document's example.
-/
namespace Go.Proofs.Ytednmncapfclfaa
open Go.RowKit

theorem ba_ext {a b : ByteArray} (h : a.data.toList = b.data.toList) : a = b := by
  cases a with | mk x => cases b with | mk y =>
    simp only [ByteArray.mk.injEq]
    exact Array.toList_inj.1 h
theorem blk_front (a b : UInt8) : ((blkB a b).extract 0 256).data.toList = List.replicate 256 a := by
  rw [ByteArray.data_extract, Array.toList_extract]
  show (blkL a b).extract 0 256 = _
  rw [List.extract_eq_take_drop, List.drop_zero]
  unfold blkL
  rw [List.take_append_of_le_length (by rw [List.length_replicate]; omega), List.take_of_length_le (by rw [List.length_replicate]; omega)]
theorem blk_back (a b : UInt8) : ((blkB a b).extract 256 512).data.toList = List.replicate 256 b := by
  rw [ByteArray.data_extract, Array.toList_extract]
  show (blkL a b).extract 256 512 = _
  rw [List.extract_eq_take_drop]
  unfold blkL
  rw [List.drop_append, List.length_replicate, List.drop_of_length_le (by rw [List.length_replicate]; omega), List.nil_append, Nat.sub_self, List.drop_zero, List.take_of_length_le (by rw [List.length_replicate]; omega)]
theorem blk_mix (a b c d : UInt8) : (blkB a b).extract 0 256 ++ (blkB c d).extract 256 512 = blkB a d := by
  apply ba_ext
  rw [ByteArray.data_append, Array.toList_append, blk_front, blk_back]
  rfl
theorem falls_blk (f : Int) (a b c d : UInt8) : Dk.falls f (blkB a b) (blkB c d) = if f = 1 then blkB c d else if f = 2 then blkB c b else if f = 3 then blkB a d else blkB a b := by
  unfold Dk.falls
  rw [blk_mix, blk_mix]
theorem write_done {d : Dk.D} (i : Nat) (s : ByteArray) (hg : d.gone = false) (hi : i < d.B.length) (hs : s.size = 512) (hf : d.fuse = -1) : Dk.write d i s = ⟨d.B, d.W ++ [(i, s)], -1, false⟩ ∧ Dk.writeE d i s = 0 := by
  have h1 : ¬ (¬ (0 ≤ (i : Int) ∧ (i : Int) < d.B.length) ∨ s.size ≠ 512) := by
    intro h
    rcases h with h | h
    · exact h ⟨by omega, by omega⟩
    · exact h hs
  have h2 : ¬ d.gone = true := by rw [hg]; simp
  have h3 : ¬ d.fuse = 0 := by rw [hf]; omega
  constructor
  · unfold Dk.write
    rw [if_neg h2, if_neg h1, if_neg h3, hf, hg]; rfl
  · unfold Dk.writeE
    rw [if_neg h2, if_neg h1, if_neg h3]
theorem flush_done {d : Dk.D} (hg : d.gone = false) (hf : d.fuse = -1) : Dk.flush d = ⟨Dk.over d.B d.W, [], -1, false⟩ ∧ Dk.flushE d = 0 := by
  have h2 : ¬ d.gone = true := by rw [hg]; simp
  have h3 : ¬ d.fuse = 0 := by rw [hf]; omega
  constructor
  · unfold Dk.flush
    rw [if_neg h2, if_neg h3, hf, hg]; rfl
  · unfold Dk.flushE
    rw [if_neg h2, if_neg h3]
theorem read_done {d : Dk.D} (i : Nat) (hg : d.gone = false) (hi : i < d.B.length) : Dk.readS d i = Dk.blk (Dk.over d.B d.W) i ∧ Dk.readE d i = 0 := by
  have h2 : ¬ d.gone = true := by rw [hg]; simp
  have h1 : 0 ≤ (i : Int) ∧ (i : Int) < d.B.length := ⟨by omega, by omega⟩
  constructor
  · unfold Dk.readS
    rw [if_neg h2, if_pos h1]; rfl
  · unfold Dk.readE
    rw [if_neg h2, if_pos h1]

def livesD : Dk.D := Dk.write (Dk.flush (Dk.write (Dk.new 1) ((0 : Nat) : Int) (blkB 97 97))) ((0 : Nat) : Int) (blkB 98 98)
theorem lives_math : Dk.writeE (Dk.flush (Dk.write (Dk.new 1) ((0 : Nat) : Int) (blkB 97 97))) ((0 : Nat) : Int) (blkB 98 98) = 0 ∧ Dk.readS (Dk.crash livesD [2]) ((0 : Nat) : Int) = blkB 98 97 ∧ Dk.readE (Dk.crash livesD [2]) ((0 : Nat) : Int) = 0 ∧ livesD.W.length ≤ 1000000 := by
  have e1 := (write_done (d := Dk.new 1) 0 (blkB 97 97) rfl (by show 0 < 1; omega) (blkB_size _ _) rfl).1
  have e2 := (flush_done (d := ⟨[Dk.zeros], [(0, blkB 97 97)], -1, false⟩) rfl rfl).1
  have e3 := write_done (d := ⟨[blkB 97 97], [], -1, false⟩) 0 (blkB 98 98) rfl (by show 0 < 1; omega) (blkB_size _ _) rfl
  have e12 : Dk.flush (Dk.write (Dk.new 1) ((0 : Nat) : Int) (blkB 97 97)) = ⟨[blkB 97 97], [], -1, false⟩ := by rw [e1]; exact e2
  have e4 : livesD = ⟨[blkB 97 97], [(0, blkB 98 98)], -1, false⟩ := by unfold livesD; rw [e12, e3.1]; rfl
  have e5 : Dk.crash livesD [2] = ⟨[blkB 98 97], [], -1, false⟩ := by
    rw [e4]
    have : Dk.falls 2 (blkB 97 97) (blkB 98 98) = blkB 98 97 := by rw [falls_blk]; rfl
    show (⟨[Dk.falls 2 (blkB 97 97) (blkB 98 98)], [], -1, false⟩ : Dk.D) = _
    rw [this]
  have e6 := read_done (d := ⟨[blkB 98 97], [], -1, false⟩) 0 rfl (by show 0 < 1; omega)
  refine ⟨by rw [e12]; exact e3.2, by rw [e5]; exact e6.1, by rw [e5]; exact e6.2, by rw [e4]; show 1 ≤ _; omega⟩

/-- the set of the blocks from B on -/
abbrev Up (B : Nat) : Nat → Prop := fun k => B ≤ k
theorem up_below {B : Nat} {w w' : World} (h : Only (Up B) w w') (hB : B ≤ w.heap.size) : Below B w w' := h.below (fun _ _ h => h) hB
theorem new_up (n : Nat) (w : World) (h1 : 1 ≤ n) (h2 : n ≤ 4096) : Calls Try.prog 9 #[.int .i64 (n : Int)] w fun e w' => ∃ p, e = .returned (.tuple #[.pointer (some ⟨p, 0, none⟩), .int .i64 0]) ∧ DiskAt w' (Up w.heap.size) p (Dk.new n) ∧ Below w.heap.size w w' := by
  refine (new_any (n : Int) w).mono fun e w' h => ?_
  rcases h with ⟨h, _⟩ | ⟨_, _, p, he, hd, hb⟩
  · exact absurd ⟨by omega, by omega⟩ h
  · exact ⟨p, he, by rw [show ((n : Int)).toNat = n from by omega] at hd; exact hd, hb⟩

end Go.Proofs.Ytednmncapfclfaa

/-
  A list in memory that is appended to: its elements of k cells each, one behind the other; what lies behind its length is its own.
-/
namespace Go.Proofs.Ytednmncapfclfaa
open Go.RowKit

section
variable {α : Type} (f : α → List Value) (k : Nat) (E : TypeId)
/-- the slice (la, its length, cap) holds the list W; its block is of S and none of Av -/
def ListAt (w : World) (S Av : Nat → Prop) (la : Option Addr) (cap : Nat) (W : List α) : Prop :=
  (la = none ∧ cap = 0 ∧ W = []) ∨ ∃ g r, la = some ⟨g, 0, none⟩ ∧ RowV w g E (W.flatMap f ++ r) ∧ W.length ≤ cap ∧ cap ≤ maxLen ∧ ¬ Av g ∧ S g ∧ W.length * k + r.length = cap * k
theorem listAt_nil (w : World) (S Av : Nat → Prop) : ListAt f k E w S Av none 0 [] := .inl ⟨rfl, rfl, rfl⟩
variable {f k E} {w w' : World} {S S' Av Av' : Nat → Prop} {la : Option Addr} {cap : Nat} {W : List α}
theorem listAt_only {F : Nat → Prop} (h : ListAt f k E w S Av la cap W) (ho : Only F w w') (hn : ∀ a, la = some a → ¬ F a.block) : ListAt f k E w' S Av la cap W := by
  rcases h with h | ⟨g, r, h1, h2, h3⟩
  · exact .inl h
  · exact .inr ⟨g, r, h1, rowV_only h2 ho (hn _ h1), h3⟩
theorem listAt_mono (h : ListAt f k E w S Av la cap W) (hs : ∀ j, j < w.heap.size → S j → S' j) (ha : ∀ j, j < w.heap.size → Av' j → Av j) : ListAt f k E w S' Av' la cap W := by
  rcases h with h | ⟨g, r, h1, h2, h3, h4, h5, h6, h7⟩
  · exact .inl h
  · exact .inr ⟨g, r, h1, h2, h3, h4, fun h => h5 (ha _ (rowV_lt h2) h), hs _ (rowV_lt h2) h6, h7⟩
theorem listAt_block (h : ListAt f k E w S Av la cap W) : ∀ a, la = some a → ∃ g, a = ⟨g, 0, none⟩ ∧ g < w.heap.size ∧ S g ∧ ¬ Av g := by
  rintro a rfl
  rcases h with ⟨h1, _⟩ | ⟨g, r, h1, h2, h3, h4, h5, h6, h7⟩
  · cases h1
  · cases h1; exact ⟨g, rfl, rowV_lt h2, h6, h5⟩
theorem listAt_len (h : ListAt f k E w S Av la cap W) : W.length ≤ cap ∧ cap ≤ maxLen := by
  rcases h with ⟨_, h2, h3⟩ | ⟨g, r, h1, h2, h3, h4, _⟩
  · rw [h2, h3]; exact ⟨Nat.le_refl _, Nat.zero_le _⟩
  · exact ⟨h3, h4⟩
/-- cell j of element i -/
theorem listAt_cell (h : ListAt f k E w S Av la cap W) (hf : ∀ x ∈ W, (f x).length = k) (i : Nat) (hi : i < W.length) : ∃ g, la = some ⟨g, 0, none⟩ ∧ ∀ j v, (f W[i])[j]? = some v → w.cell? ⟨g, i * k + j, none⟩ = some v ∧ w.frozen? ⟨g, i * k + j, none⟩ = false := by
  rcases h with ⟨_, _, h3⟩ | ⟨g, r, h1, h2, _⟩
  · subst h3; simp at hi
  · refine ⟨g, h1, fun j v hj => ⟨?_, rowV_frozen h2 _⟩⟩
    have hjk : j < k := by rw [← hf _ (List.getElem_mem hi)]; exact (List.getElem?_eq_some_iff.1 hj).1
    have hle := Nat.mul_le_mul_right k (show i + 1 ≤ W.length from hi)
    rw [Nat.add_mul, Nat.one_mul] at hle
    rw [rowV_cell h2, List.getElem?_append_left (by rw [flat_len f k W hf]; omega), flat_at f k W hf i hi j hjk]
    exact hj
theorem room_more (k n r c : Nat) (h : n * k + r = c * k) (h2 : (n + 1) * k ≤ c * k) : (n + 1) * k + (r - k) = c * k := by
  rw [Nat.add_mul, Nat.one_mul] at h2 ⊢
  generalize n * k = a at *
  generalize c * k = b at *
  omega
theorem listAt_owns (h : ListAt f k E w S Av la cap W) (hf : ∀ x ∈ W, (f x).length = k) : w.ownsRow 0 E k (.slice la W.length cap) W.length (W.flatMap f) := by
  have hl := flat_len f k W hf
  refine ⟨hl, ?_⟩
  rcases h with ⟨h1, h2, h3⟩ | ⟨g, r, h1, h2, h3, h4, _, _, h7⟩
  · left; rw [h1, h2, h3]; exact ⟨rfl, rfl⟩
  · right
    refine ⟨g, cap, (W.flatMap f ++ r).toArray, by rw [h1], Nat.zero_le _, h2, h3, h4, ?_, ?_⟩
    · rw [List.size_toArray, List.length_append, hl]; exact h7
    · rw [← hl]; simp
/-- one element more -/
theorem append_list {P : Program} (t ty : TypeId) (i : TypeInfo) (z : Value) (bytes : Nat) (ht : P.underlying t = some (.slice E)) (hi : P.info? E = some i) (hz : i.zero = some z) (hsize : i.size = k) (hby : i.bytes = bytes) (hzs : z.cells.size = k) (hk : 0 < k)
    (h : ListAt f k E w S Av la cap W) (hf : ∀ x ∈ W, (f x).length = k) (x : α) (hx : (f x).length = k) (h1 : ∀ v ∈ f x, v.oneCell' = true) (N : Nat) (hN : RowV w N E (f x)) (hW : ((W.length + 1) + (W.length + 1) / 4 + 192) * bytes ≤ 281474976710656) (hW2 : (W.length + 1) * bytes ≤ 140737488355328) (hm : W.length + 1 ≤ maxLen)
    (hAv : ∀ j, Av j → j < w.heap.size) :
    ∃ la' cap' w', (Builtin.append_ #[t, t] ty #[.slice la W.length cap, .slice (some ⟨N, 0, none⟩) 1 1]).run P w = .ok (.slice la' (W.length + 1) cap') w' ∧
      ListAt f k E w' (fun j => S j ∨ w.heap.size ≤ j) Av la' cap' (W ++ [x]) ∧ Only (fun j => S j ∧ ¬ Av j) w w' := by
  have hsnoc : (W ++ [x]).flatMap f = W.flatMap f ++ f x := by rw [List.flatMap_append]; simp
  have hnews : ∀ j u, (f x)[j]? = some u → w.cell? ((⟨N, 0, none⟩ : Addr).add j) = some u := fun j u hj => by
    rw [Addr.add_mid, Nat.zero_add, rowV_cell hN]; exact hj
  have hb := listAt_block h
  have hlen := flat_len f k W hf
  have fin : ∀ (v' : Value) (w' : World) (row : Option Nat), w'.ownsRow w.heap.size E k v' (W.length + 1) (W.flatMap f ++ f x) → w.grownBy w' row → (∀ j, row = some j → S j ∧ ¬ Av j) →
      ∃ la' cap', v' = .slice la' (W.length + 1) cap' ∧ ListAt f k E w' (fun j => S j ∨ w.heap.size ≤ j) Av la' cap' (W ++ [x]) ∧ Only (fun j => S j ∧ ¬ Av j) w w' := by
    intro v' w' row ho hg hrow
    rcases ho.2 with ⟨_, h0⟩ | ⟨g', cap', cur, rfl, hb', hh, u1, u2, u3, u4⟩
    · omega
    · refine ⟨_, _, rfl, .inr ⟨g', cur.toList.drop ((W.length + 1) * k), rfl, ?_, by simpa using u1, u2, fun h => by have := hAv _ h; omega, .inr hb', ?_⟩, (Only.refl _ w).grown hg (by intro j _ e; exact hrow j e)⟩
      · rw [hsnoc, ← u4, List.take_append_drop]; exact hh
      · have hcl : cur.toList.length = cur.size := Array.length_toList
        rw [List.length_drop, hcl, u3, List.length_append, List.length_singleton]
        have := Nat.mul_le_mul_right k u1
        omega
  rcases h with ⟨rfl, rfl, rfl⟩ | ⟨g, r, rfl, hg, hcap, hmax, hav, hS, hsz⟩
  · obtain ⟨v', w', hr, ho, hgr, _⟩ := run_append_own_wide (P := P) w w.heap.size t ty E i z k bytes ht hi hz hsize hby hzs hk _ 0 [] (World.ownsRow_nil w w.heap.size E k)
      ⟨N, 0, none⟩ 1 1 (f x) (by rw [hx, Nat.one_mul]) hnews h1 (by unfold maxLen; omega) (by simpa using hW) (Nat.le_refl _)
    obtain ⟨la', cap', rfl, rest⟩ := fin v' w' _ (by simpa using ho) hgr (by intro j e; simp [Value.ownBlock] at e)
    exact ⟨la', cap', w', hr, rest⟩
  · by_cases hroom : W.length < cap
    · have hle := Nat.mul_le_mul_right k (show W.length + 1 ≤ cap from hroom)
      have hle2 : W.length * k + k ≤ cap * k := by rw [Nat.add_mul, Nat.one_mul] at hle; exact hle
      have hth := rowV_there hg (W.length * k) k (by rw [List.length_append, hlen]; omega)
      have hr := run_append_room_cells (P := P) w t ty E i ht hi g 0 W.length cap ⟨N, 0, none⟩ 1 1 (f x) (by rw [hsize, hx, Nat.one_mul]) hnews h1 hroom
        (fun j hj => by rw [hsize, Nat.zero_add]; exact (hth j (by omega)).1) (fun j hj => by rw [hsize, Nat.zero_add]; exact (hth j (by omega)).2)
      rw [hsize, Nat.zero_add] at hr
      have hst := rowV_setCells (f x) (W.length * k) hg (by rw [hx, List.length_append, hlen]; omega)
      refine ⟨_, _, _, hr, .inr ⟨g, r.drop k, rfl, ?_, by rw [List.length_append, List.length_singleton]; exact hroom, hmax, hav, .inl hS, ?_⟩, (Only.refl _ w).setCells (fun _ => ⟨hS, hav⟩) _ _⟩
      · have e : (W.flatMap f ++ r).take (W.length * k) ++ f x ++ (W.flatMap f ++ r).drop (W.length * k + (f x).length) = (W ++ [x]).flatMap f ++ r.drop k := by
          rw [hsnoc, ← hlen, List.take_left', List.drop_append, hx, List.drop_of_length_le (by omega), List.nil_append, show (W.flatMap f).length + k - (W.flatMap f).length = k by omega]
          rfl
        rw [← e]; exact hst
      · rw [List.length_drop, List.length_append, List.length_singleton]; exact room_more k _ _ _ hsz hle
    · have hcw : cap = W.length := by omega
      obtain ⟨v', w', hr, ho, hgr⟩ := run_append_arg_grows (P := P) w t ty E i z k bytes ht hi hz hsize hby hzs hk ⟨g, 0, none⟩ W.length cap (W.flatMap f) hlen
        (fun j u hj => by
          have hlt := (List.getElem?_eq_some_iff.1 hj).1
          rw [Addr.add_mid, Nat.zero_add, rowV_cell hg, List.getElem?_append_left hlt]; exact hj)
        ⟨N, 0, none⟩ 1 1 (f x) (by rw [hx, Nat.one_mul]) hnews (by omega) hm hW2
      obtain ⟨la', cap', rfl, rest⟩ := fin v' w' none ho hgr (by intro j e; cases e)
      exact ⟨la', cap', w', hr, rest⟩
end
end Go.Proofs.Ytednmncapfclfaa

/-
  Layer 4: the document's disk in memory, and what its small calls do.
-/
namespace Go.Proofs.Ytednmncapfclfaa
open Go.RowKit

def sB (s : ByteArray) : List Value := [.string s]
def lwv (x : Nat × ByteArray) : List Value := [.int .i64 (x.1 : Int), .string x.2]
def RHead (w : World) (q cb cw : Nat) (lb lw : Option Addr) (d : Dk.D) : Prop := RowV w q 73 [.slice lb d.B.length cb, .slice lw d.W.length cw, .int .i64 d.fuse, .bool d.gone]
/-- the document's disk at block q -/
structure RefIn (w : World) (S : Nat → Prop) (q cb cw : Nat) (lb lw : Option Addr) (d : Dk.D) : Prop where
  ok : Dk.Ok d
  head : RHead w q cb cw lb lw d
  blocks : ListAt sB 1 9 w S (fun x => x = q) lb cb d.B
  loose : ListAt lwv 2 98 w S (fun x => x = q ∨ ∃ a, lb = some a ∧ a.block = x) lw cw d.W
  sq : S q
def RefAt (w : World) (S : Nat → Prop) (q : Nat) (d : Dk.D) : Prop := ∃ cb cw lb lw, RefIn w S q cb cw lb lw d
theorem refIn_only {F S : Nat → Prop} {w w' : World} {q cb cw : Nat} {lb lw : Option Addr} {d : Dk.D} (h : RefIn w S q cb cw lb lw d) (ho : Only F w w') (hn : ∀ k, k < w.heap.size → S k → ¬ F k) : RefIn w' S q cb cw lb lw d := by
  refine ⟨h.ok, rowV_only h.head ho (hn _ (rowV_lt h.head) h.sq), listAt_only h.blocks ho fun a ha => ?_, listAt_only h.loose ho fun a ha => ?_, h.sq⟩
  · obtain ⟨g, rfl, h1, h2, _⟩ := listAt_block h.blocks a ha
    exact hn _ h1 h2
  · obtain ⟨g, rfl, h1, h2, _⟩ := listAt_block h.loose a ha
    exact hn _ h1 h2
theorem refIn_mono {S S' : Nat → Prop} {w : World} {q cb cw : Nat} {lb lw : Option Addr} {d : Dk.D} (h : RefIn w S q cb cw lb lw d) (hs : ∀ k, k < w.heap.size → S k → S' k) : RefIn w S' q cb cw lb lw d :=
  ⟨h.ok, h.head, listAt_mono h.blocks hs fun _ _ h => h, listAt_mono h.loose hs fun _ _ h => h, hs _ (rowV_lt h.head) h.sq⟩
theorem refAt_only {F S : Nat → Prop} {w w' : World} {q : Nat} {d : Dk.D} (h : RefAt w S q d) (ho : Only F w w') (hn : ∀ k, k < w.heap.size → S k → ¬ F k) : RefAt w' S q d := by
  obtain ⟨_, _, _, _, h⟩ := h
  exact ⟨_, _, _, _, refIn_only h ho hn⟩
theorem refAt_mono {S S' : Nat → Prop} {w : World} {q : Nat} {d : Dk.D} (h : RefAt w S q d) (hs : ∀ k, k < w.heap.size → S k → S' k) : RefAt w S' q d := by
  obtain ⟨_, _, _, _, h⟩ := h
  exact ⟨_, _, _, _, refIn_mono h hs⟩
theorem sB_len (x : ByteArray) : (sB x).length = 1 := rfl
theorem lwv_len (x : Nat × ByteArray) : (lwv x).length = 2 := rfl
theorem lwv_one (x : Nat × ByteArray) : ∀ v ∈ lwv x, v.oneCell' = true := by
  intro v hv
  simp only [lwv, List.mem_cons, List.not_mem_nil, or_false] at hv
  rcases hv with rfl | rfl <;> rfl

section
variable {w : World} {S Av : Nat → Prop} {q cb cw : Nat} {lb lw : Option Addr} {d : Dk.D} {B : List ByteArray} {W : List (Nat × ByteArray)}
theorem rhead_B (h : RHead w q cb cw lb lw d) : w.cell? ⟨q, 0, none⟩ = some (.slice lb d.B.length cb) := rowV_cell h 0
theorem rhead_W (h : RHead w q cb cw lb lw d) : w.cell? ⟨q, 1, none⟩ = some (.slice lw d.W.length cw) := rowV_cell h 1
theorem rhead_fuse (h : RHead w q cb cw lb lw d) : w.cell? ⟨q, 2, none⟩ = some (.int .i64 d.fuse) := rowV_cell h 2
theorem rhead_gone (h : RHead w q cb cw lb lw d) : w.cell? ⟨q, 3, none⟩ = some (.bool d.gone) := rowV_cell h 3
/-- block i of the document's disk -/
theorem ref_block (h : ListAt sB 1 9 w S Av lb cb B) (i : Nat) (hi : i < B.length) : ∃ g, lb = some ⟨g, 0, none⟩ ∧ w.cell? ⟨g, i, none⟩ = some (.string (Dk.blk B i)) ∧ w.frozen? ⟨g, i, none⟩ = false := by
  obtain ⟨g, h1, h2⟩ := listAt_cell h (fun _ _ => rfl) i hi
  have h3 := h2 0 _ rfl
  rw [Nat.mul_one, Nat.add_zero] at h3
  exact ⟨g, h1, by rw [h3.1, ← Dk.getD_get B i ByteArray.empty hi], h3.2⟩
theorem ref_set (h : ListAt sB 1 9 w S Av lb cb B) (g : Nat) (hg : lb = some ⟨g, 0, none⟩) (i : Nat) (hi : i < B.length) (s : ByteArray) : ListAt sB 1 9 (w.setCell ⟨g, i, none⟩ (.string s)) S Av lb cb (B.set i s) := by
  rcases h with ⟨h1, _⟩ | ⟨g', r, h1, h2, h3, h4, h5, h6, h7⟩
  · rw [h1] at hg; cases hg
  · rw [h1] at hg
    cases hg
    have hst := rowV_stored h2 i (.string s)
    have e : (B.flatMap sB ++ r).set i (.string s) = (B.set i s).flatMap sB ++ r := by
      have hl := flat_len sB 1 B fun _ _ => rfl
      have := flat_set sB 1 B (fun _ _ => rfl) i hi s r
      rw [← this, Nat.mul_one]
      have hil : i < (B.flatMap sB ++ r).length := by rw [List.length_append, hl]; omega
      rw [List.set_eq_take_append_cons_drop, if_pos hil, List.append_assoc]
      rfl
    rw [e] at hst
    exact .inr ⟨_, r, h1, hst, by rw [List.length_set]; exact h3, h4, h5, h6, by rw [List.length_set]; exact h7⟩
/-- loose write k of the document's disk -/
theorem ref_loose (h : ListAt lwv 2 98 w S Av lw cw W) (k : Nat) (hk : k < W.length) : ∃ g, lw = some ⟨g, 0, none⟩ ∧ w.cell? ⟨g, k * 2, none⟩ = some (.int .i64 ((W.getD k (0, ByteArray.empty)).1 : Int)) ∧ w.cell? ⟨g, k * 2 + 1, none⟩ = some (.string (W.getD k (0, ByteArray.empty)).2) := by
  obtain ⟨g, h1, h2⟩ := listAt_cell h (fun _ _ => rfl) k hk
  rw [Dk.getD_get W k (0, ByteArray.empty) hk]
  exact ⟨g, h1, (h2 0 _ rfl).1, (h2 1 _ rfl).1⟩

set_option maxRecDepth 100000 in
theorem there_any (h : RHead w q cb cw lb lw d) (i : Int) : Calls Try.prog 52 #[.pointer (some ⟨q, 0, none⟩), .int .i64 i] w fun e w' => e = .returned (.bool (decide (0 ≤ i ∧ i < d.B.length))) ∧ w' = w := by
  have c0 := rhead_B h
  clear h
  by_cases h1 : 0 ≤ i
  · by_cases h2 : i < d.B.length
    · go_enter Try.func52, Try.ntmps52
      go_wp2_with fail
      go_ret
      exact ⟨ret_bool (by simp [h1, h2]), rfl⟩
    · go_enter Try.func52, Try.ntmps52
      go_wp2_with fail
      go_ret
      exact ⟨ret_bool (by simp [h2]), rfl⟩
  · go_enter Try.func52, Try.ntmps52
    go_wp2_with fail
    go_ret
    exact ⟨ret_bool (by simp; omega), rfl⟩
set_option maxRecDepth 100000 in
theorem goes_any (h : RHead w q cb cw lb lw d) (hd : Dk.Ok d) : Calls Try.prog 51 #[.pointer (some ⟨q, 0, none⟩)] w fun e w' => e = .returned (.bool (decide (d.fuse = 0))) ∧ RHead w' q cb cw lb lw (Dk.spent d) ∧ Only (fun k => k = q) w w' := by
  have c3 := rhead_fuse h
  have f3 := rowV_frozen h 2
  have c4 := rhead_gone h
  have f4 := rowV_frozen h 3
  have hh := hd.high
  by_cases h0 : d.fuse = 0
  · have hst := rowV_stored h 3 (.bool true)
    have ho := (Only.refl (fun k => k = q) w).setCell (g := q) (i := 3) (fun _ => rfl) (.bool true)
    have e1 : Dk.spent d = { d with gone := true } := by unfold Dk.spent; rw [if_pos h0]
    rw [h0] at c3
    rw [decide_eq_true h0]
    have HH := Lib.hid (And.intro hst (And.intro ho (And.intro e1 h0))); clear h hst ho e1 h0 hd hh
    go_enter Try.func51, Try.ntmps51
    go_wp2_with fail
    go_ret
    exact ⟨rfl, by rw [HH.out.2.2.1]; exact HH.out.1, HH.out.2.1⟩
  · have t0 : (d.fuse == 0) = false := by rw [beq_eq_false_iff_ne]; exact h0
    rw [decide_eq_false h0]
    by_cases h1 : 0 < d.fuse
    · have hst := rowV_stored h 2 (.int .i64 (d.fuse - 1))
      have ho := (Only.refl (fun k => k = q) w).setCell (g := q) (i := 2) (fun _ => rfl) (.int .i64 (d.fuse - 1))
      have e1 : Dk.spent d = { d with fuse := d.fuse - 1 } := by unfold Dk.spent Dk.burn; rw [if_neg h0, if_pos h1]
      have HH := Lib.hid (And.intro hst (And.intro ho (And.intro e1 h0))); clear h hst ho e1 h0 hd
      go_enter Try.func51, Try.ntmps51
      go_wp2_with fail
      go_ret
      exact ⟨rfl, by rw [HH.out.2.2.1]; exact HH.out.1, HH.out.2.1⟩
    · have e1 : Dk.spent d = { d with fuse := d.fuse } := by unfold Dk.spent Dk.burn; rw [if_neg h0, if_neg h1]
      have HH := Lib.hid (And.intro h (And.intro e1 h0)); clear h e1 h0 hd
      go_enter Try.func51, Try.ntmps51
      go_wp2_with fail
      go_ret
      exact ⟨rfl, by rw [HH.out.2.1]; exact HH.out.1, Only.refl _ _⟩
set_option maxRecDepth 100000 in
theorem rarm_any (h : RHead w q cb cw lb lw d) (n : Int) : Calls Try.prog 28 #[.pointer (some ⟨q, 0, none⟩), .int .i64 n] w fun e w' => e = .returned (.int .i64 (Dk.armE d)) ∧ RHead w' q cb cw lb lw (Dk.arm d n) ∧ Only (fun k => k = q) w w' := by
  have c3 := rhead_fuse h
  have f3 := rowV_frozen h 2
  have c4 := rhead_gone h
  have hst := rowV_stored h 2 (.int .i64 n)
  have ho := (Only.refl (fun k => k = q) w).setCell (g := q) (i := 2) (fun _ => rfl) (.int .i64 n)
  have HH := Lib.hid (And.intro h (And.intro hst ho)); clear h hst ho
  cases hg : d.gone with
  | true =>
    have e1 : Dk.arm d n = d := by unfold Dk.arm; rw [if_pos hg]
    have e2 : Dk.armE d = 7 := by unfold Dk.armE; rw [if_pos hg]
    rw [hg] at c4
    rw [e1, e2]
    clear e1 e2 hg
    go_enter Try.func28, Try.ntmps28
    go_wp2_with fail
    go_ret
    exact ⟨rfl, HH.out.1, Only.refl _ _⟩
  | false =>
    have e1 : Dk.arm d n = { d with fuse := n } := by unfold Dk.arm; rw [if_neg (by rw [hg]; simp)]
    have e2 : Dk.armE d = 0 := by unfold Dk.armE; rw [if_neg (by rw [hg]; simp)]
    rw [hg] at c4
    rw [e1, e2]
    clear e1 e2 hg
    go_enter Try.func28, Try.ntmps28
    go_wp2_with fail
    go_ret
    exact ⟨rfl, HH.out.2.1, HH.out.2.2⟩
end
end Go.Proofs.Ytednmncapfclfaa

/-
  Layer 4: what the document's Write, Read and Flush do.
-/
namespace Go.Proofs.Ytednmncapfclfaa
open Go.RowKit

theorem info_loose : (Try.prog.info? 98).map (fun i => (i.zero, i.size, i.bytes)) = some (some (.agg #[.int .i64 0, .string ByteArray.empty]), 2, 24) := by kernel_rfl
theorem info_str : (Try.prog.info? 9).map (fun i => (i.zero, i.size, i.bytes)) = some (some (.string ByteArray.empty), 1, 16) := by kernel_rfl
theorem wpList_run_append2 {P : Program} {ops : Array Oper} {rest : List Oper} {o : Oper} {a : Act} {w : World} {Q : Exit → Act → World → Prop} (hgd : o.guard = none) (s x : Operand) (t : TypeId)
    (ho : o.op = .call { callee := .builtin .append, args := #[s, x], argTypes := #[t, t] }) (v1 v2 : Value) (hs : a.eval s = v1) (hx : a.eval x = v2) (v' : Value) (w' : World) (hr : (Builtin.append_ #[t, t] o.type #[v1, v2]).run P w = .ok v' w')
    (h : wpList P ops Q rest (a.put o.dst v') w') : wpList P ops Q (o :: rest) a w := by
  refine wpList_plain hgd fun K hK => ?_
  unfold Oper.wp execOp
  simp only [ho, resolve, invoke, builtin, Sem.run_bind, Sem.run_pure, Result.andThen_ok, List.map_toArray, List.map_cons, List.map_nil, hs, hx, hr]
  exact hK _ _ h
/-- behind goes -/
theorem refIn_spent {w w' : World} {S : Nat → Prop} {q cb cw : Nat} {lb lw : Option Addr} {d : Dk.D} (h : RefIn w S q cb cw lb lw d) (hh : RHead w' q cb cw lb lw (Dk.spent d)) (ho : Only (fun k => k = q) w w') : RefIn w' S q cb cw lb lw (Dk.spent d) := by
  refine ⟨Dk.spent_ok h.ok, hh, ?_, ?_, h.sq⟩
  · rw [spent_B]
    refine listAt_only h.blocks ho fun a ha => ?_
    obtain ⟨g, rfl, _, _, h3⟩ := listAt_block h.blocks a ha
    exact h3
  · rw [spent_W]
    refine listAt_only h.loose ho fun a ha => ?_
    obtain ⟨g, rfl, _, _, h3⟩ := listAt_block h.loose a ha
    exact fun e => h3 (.inl e)

set_option maxRecDepth 100000 in
set_option maxHeartbeats 1600000 in
theorem rwrite_any {w : World} {S : Nat → Prop} {q cb cw : Nat} {lb lw : Option Addr} {d : Dk.D} (h : RefIn w S q cb cw lb lw d) (hS : ∀ k, w.heap.size ≤ k → S k) (i : Int) (s : ByteArray) (hW : d.W.length ≤ 1000000) :
    Calls Try.prog 32 #[.pointer (some ⟨q, 0, none⟩), .int .i64 i, .string s] w fun e w' => e = .returned (.int .i64 (Dk.writeE d i s)) ∧ RefAt w' S q (Dk.write d i s) ∧ Only S w w' := by
  have c4 := rhead_gone h.head
  have ct := there_any h.head i
  cases hg : d.gone with
  | true =>
    have e1 : Dk.write d i s = d := by unfold Dk.write; rw [if_pos hg]
    have e2 : Dk.writeE d i s = 7 := by unfold Dk.writeE; rw [if_pos hg]
    rw [hg] at c4
    rw [e1, e2]
    have HH := Lib.hid h; clear ct h e1 e2 hg hW hS
    go_enter Try.func32, Try.ntmps32
    go_wp2_with fail
    go_ret
    exact ⟨rfl, ⟨_, _, _, _, HH.out⟩, Only.refl _ _⟩
  | false =>
    rw [hg] at c4
    have hgf : ¬ d.gone = true := by rw [hg]; simp
    by_cases hi : 0 ≤ i ∧ i < d.B.length
    · rw [decide_eq_true hi] at ct
      by_cases hs : s.size = 512
      · have hno : ¬ (¬ (0 ≤ i ∧ i < d.B.length) ∨ s.size ≠ 512) := fun hn => by rcases hn with hn | hn; exact hn hi; exact hn hs
        have ts : ((s.size : Int) != 512) = false := by rw [hs]; rfl
        have cg := goes_any h.head h.ok
        by_cases h0 : d.fuse = 0
        · have e1 : Dk.write d i s = Dk.spent d := by unfold Dk.write Dk.spent; rw [if_neg hgf, if_neg hno, if_pos h0, if_pos h0]
          have e2 : Dk.writeE d i s = 7 := by unfold Dk.writeE; rw [if_neg hgf, if_neg hno, if_pos h0]
          rw [e1, e2]
          rw [decide_eq_true h0] at cg
          have HH := Lib.hid (And.intro ct (And.intro cg h)); clear ct cg h e1 e2 hg hgf hno h0 hi hW hs hS
          go_enter Try.func32, Try.ntmps32
          go_wp2_with fail
          refine HH.out.1.mono ?_
          rintro e w0 ⟨rfl, hw0⟩
          obtain rfl := hw0.symm
          clear hw0
          go_wp2_with fail
          refine HH.out.2.1.mono ?_
          rintro e w1 ⟨rfl, hh1, ho1⟩
          have H1 := Lib.hid (And.intro hh1 ho1); clear hh1 ho1
          go_wp2_with fail
          go_ret
          exact ⟨rfl, ⟨_, _, _, _, refIn_spent HH.out.2.2 H1.out.1 H1.out.2⟩, H1.out.2.mono fun k _ e => e ▸ HH.out.2.2.sq⟩
        · obtain ⟨j, rfl⟩ : ∃ j : Nat, i = (j : Int) := ⟨i.toNat, by omega⟩
          have hj : j < d.B.length := by omega
          have e1 : Dk.write d j s = ⟨d.B, d.W ++ [(j, s)], Dk.burn d.fuse, d.gone⟩ := by unfold Dk.write; rw [if_neg hgf, if_neg hno, if_neg h0]; rfl
          have e2 : Dk.writeE d j s = 0 := by unfold Dk.writeE; rw [if_neg hgf, if_neg hno, if_neg h0]
          have e4 : Dk.spent d = ⟨d.B, d.W, Dk.burn d.fuse, d.gone⟩ := by unfold Dk.spent; rw [if_neg h0]
          have hok := Dk.write_ok h.ok j s
          rw [e1] at hok
          rw [e1, e2]
          rw [decide_eq_false h0] at cg
          have HH := Lib.hid (And.intro ct (And.intro cg (And.intro h (And.intro e4 (And.intro hok (And.intro hW hS)))))); clear ct cg h e1 e2 e4 hg hgf hno h0 hi hok hj hW hs hS
          go_enter Try.func32, Try.ntmps32
          go_wp2_with fail
          refine HH.out.1.mono ?_
          rintro e w0 ⟨rfl, hw0⟩
          obtain rfl := hw0.symm
          clear hw0
          go_wp2_with fail
          refine HH.out.2.1.mono ?_
          rintro e w1 ⟨rfl, hh1, ho1⟩
          have hin := refIn_spent HH.out.2.2.1 hh1 ho1
          rw [HH.out.2.2.2.1] at hin
          have c1 := rhead_W hin.head
          obtain ⟨il, hil, hil2⟩ := Option.map_eq_some_iff.1 info_loose
          simp only [Prod.mk.injEq] at hil2
          have hoa : ∀ F : Nat → Prop, Only F w1 (w1.alloc (.cells #[.int .i64 (j : Int), .string s] 98)) := fun F => (Only.refl F w1).alloc _
          have hlt : ∀ x, (x = q ∨ ∃ a, lb = some a ∧ a.block = x) → x < w1.heap.size := by
            rintro x (rfl | ⟨a, ha, rfl⟩)
            · exact rowV_lt hin.head
            · obtain ⟨g, rfl, h1, _⟩ := listAt_block hin.blocks a ha; exact h1
          have hap := append_list (P := Try.prog) (w := w1.alloc (.cells #[.int .i64 (j : Int), .string s] 98)) (W := d.W) 71 71 il _ 24 Try.underlying71 hil hil2.1 hil2.2.1 hil2.2.2 rfl (by omega)
            (listAt_only hin.loose (hoa fun _ => False) (fun _ _ h => h)) (fun _ _ => rfl) (j, s) rfl (lwv_one _) w1.heap.size (rowV_new w1 _ _) (by have := HH.out.2.2.2.2.2.1; omega) (by have := HH.out.2.2.2.2.2.1; omega) (by have := HH.out.2.2.2.2.2.1; unfold maxLen; omega) (fun x hx => by have := hlt x hx; simp; omega)
          obtain ⟨la', cap', w5, hrun, hL5, ho5⟩ := hap
          have ho15 := (hoa (fun j => S j ∧ ¬ (j = q ∨ ∃ a, lb = some a ∧ a.block = j))).more ho5
          have hh5 : RHead w5 q cb cw lb lw ⟨d.B, d.W, Dk.burn d.fuse, d.gone⟩ := rowV_only hin.head ho15 (fun h => h.2 (.inl rfl))
          have hb5 := listAt_only hin.blocks ho15 (fun a ha h => h.2 (.inr ⟨a, ha, rfl⟩))
          have f15 := rowV_frozen hh5 1
          have c15 := rhead_W hh5
          have hst := rowV_stored hh5 1 (.slice la' (d.W.length + 1) cap')
          have hz1 : w.heap.size ≤ w1.heap.size := ho1.size
          have H5 := Lib.hid (And.intro hst (And.intro hb5 (And.intro hL5 (And.intro ho15 (And.intro ho1 hin.sq)))))
          have HR := Lib.hid hrun
          clear hst hb5 hL5 ho15 ho1 hh1 ho5 hh5 hrun hin hoa hlt hil hil2
          go_wp2_with (at_builtin; go_loud (refine wpList_run_append2 rfl (.tmp 29) (.tmp 33) 71 rfl _ _ rfl rfl _ _ HR.out ?_))
          go_ret
          obtain ⟨hst, hb5, hL5, ho15, ho1, hsq⟩ := H5.out
          have hp5 : Only (fun k => k = q) w5 (w5.setCell ⟨q, 1, none⟩ (.slice la' (d.W.length + 1) cap')) := (Only.refl (fun k => k = q) w5).setCell (g := q) (i := 1) (fun _ => rfl) _
          refine ⟨rfl, ⟨cb, cap', lb, la', ⟨HH.out.2.2.2.2.1, ?_, ?_, ?_, hsq⟩⟩, ((ho1.mono (G := S) fun k _ e => e ▸ hsq).trans (ho15.mono (G := S) fun k _ h => h.1) fun _ _ h => h).trans (hp5.mono (G := S) fun k _ e => e ▸ hsq) fun _ _ h => h⟩
          · have e : (d.W ++ [(j, s)]).length = d.W.length + 1 := by simp
            unfold RHead
            rw [e]
            exact hst
          · refine listAt_only hb5 hp5 fun a ha => ?_
            obtain ⟨g, rfl, _, _, h3⟩ := listAt_block hb5 a ha
            exact h3
          · have hm := listAt_mono (S' := S) (Av' := fun x => x = q ∨ ∃ a, lb = some a ∧ a.block = x) hL5 (fun k _ h => h.elim id fun h => HH.out.2.2.2.2.2.2 k (by simp at h; omega)) (fun _ _ h => h)
            refine listAt_only hm hp5 fun a ha => ?_
            obtain ⟨g, rfl, _, _, h3⟩ := listAt_block hm a ha
            exact fun e => h3 (.inl e)
      · have e1 : Dk.write d i s = d := by unfold Dk.write; rw [if_neg hgf, if_pos (.inr hs)]
        have e2 : Dk.writeE d i s = 2 := by unfold Dk.writeE; rw [if_neg hgf, if_pos (.inr hs)]
        have ts : ((s.size : Int) != 512) = true := by rw [bne_iff_ne]; omega
        rw [e1, e2]
        have HH := Lib.hid (And.intro ct h); clear ct h e1 e2 hg hgf hW hs hi hS
        go_enter Try.func32, Try.ntmps32
        go_wp2_with fail
        refine HH.out.1.mono ?_
        rintro e w0 ⟨rfl, hw0⟩
        obtain rfl := hw0.symm
        clear hw0
        go_wp2_with fail
        go_ret
        exact ⟨rfl, ⟨_, _, _, _, HH.out.2⟩, Only.refl _ _⟩
    · have e1 : Dk.write d i s = d := by unfold Dk.write; rw [if_neg hgf, if_pos (.inl hi)]
      have e2 : Dk.writeE d i s = 2 := by unfold Dk.writeE; rw [if_neg hgf, if_pos (.inl hi)]
      rw [decide_eq_false hi] at ct
      rw [e1, e2]
      have HH := Lib.hid (And.intro ct h); clear ct h e1 e2 hg hgf hW hi hS
      go_enter Try.func32, Try.ntmps32
      go_wp2_with fail
      refine HH.out.1.mono ?_
      rintro e w0 ⟨rfl, hw0⟩
      obtain rfl := hw0.symm
      clear hw0
      go_wp2_with fail
      go_ret
      exact ⟨rfl, ⟨_, _, _, _, HH.out.2⟩, Only.refl _ _⟩
end Go.Proofs.Ytednmncapfclfaa

/-
  Layer 4: what the document's Read and Flush do.
-/
namespace Go.Proofs.Ytednmncapfclfaa
open Go.RowKit

set_option maxRecDepth 100000 in
set_option maxHeartbeats 1600000 in
theorem rread_any {w : World} {S : Nat → Prop} {q cb cw : Nat} {lb lw : Option Addr} {d : Dk.D} (h : RefIn w S q cb cw lb lw d) (i : Int) :
    Calls Try.prog 49 #[.pointer (some ⟨q, 0, none⟩), .int .i64 i] w fun e w' => e = .returned (.tuple #[.string (Dk.readS d i), .int .i64 (Dk.readE d i)]) ∧ w' = w := by
  have c4 := rhead_gone h.head
  have ct := there_any h.head i
  cases hg : d.gone with
  | true =>
    have e1 : Dk.readS d i = ByteArray.empty := by unfold Dk.readS; rw [if_pos hg]
    have e2 : Dk.readE d i = 7 := by unfold Dk.readE; rw [if_pos hg]
    rw [hg] at c4
    rw [e1, e2]
    clear ct h e1 e2 hg
    go_enter Try.func49, Try.ntmps49
    go_wp2_with fail
    go_ret2
    exact ⟨rfl, rfl⟩
  | false =>
    rw [hg] at c4
    by_cases hi : 0 ≤ i ∧ i < d.B.length
    · have e1 : Dk.readS d i = Dk.blk (Dk.over d.B d.W) i.toNat := by unfold Dk.readS; rw [if_neg (by rw [hg]; simp), if_pos hi]
      have e2 : Dk.readE d i = 0 := by unfold Dk.readE; rw [if_neg (by rw [hg]; simp), if_pos hi]
      rw [e1, e2]
      rw [decide_eq_true hi] at ct
      obtain ⟨j, rfl⟩ : ∃ j : Nat, i = (j : Int) := ⟨i.toNat, by omega⟩
      rw [show ((j : Int)).toNat = j from by omega]
      have hj : j < d.B.length := by omega
      have c0 := rhead_B h.head
      have c1 := rhead_W h.head
      have hWm := (listAt_len h.loose).1
      have hWm2 := (listAt_len h.loose).2
      have hlen : d.W.length ≤ maxLen := Nat.le_trans hWm hWm2
      unfold maxLen at hlen
      have jB : (j : Int) < (d.B.length : Int) := by omega
      obtain ⟨R, hR⟩ : ∃ R, Dk.blk (Dk.over d.B d.W) j = R := ⟨_, rfl⟩
      rw [hR]
      have HR := Lib.hid hR
      clear hR
      have HH := Lib.hid (And.intro ct (And.intro h hj)); clear ct h e1 e2 hg hi hWm hWm2 hj
      go_enter Try.func49, Try.ntmps49
      go_wp2_with fail
      refine HH.out.1.mono ?_
      rintro e w0 ⟨rfl, hw0⟩
      obtain rfl := hw0.symm
      clear hw0
      go_wp2_with fail
      go_loopw [6] (fun kv wr => ∃ n : Nat, n ≤ d.W.length ∧ kv = .int .i64 ((n : Int) - 1) ∧ Hid (wr = w) ∧ Hid (∀ m, n ≤ m → m < d.W.length → (d.W.getD m (0, ByteArray.empty)).1 ≠ j))
        (fun kv _ => (intOf kv + 1).toNat)
      case atStart => exact ⟨d.W.length, by omega, by go_num, Lib.hid rfl, Lib.hid (fun m h1 h2 => by omega)⟩
      case round =>
        obtain ⟨n, hn, rfl, HW, HN⟩ := hrel
        obtain rfl := HW.out
        by_cases h0 : n = 0
        · subst h0
          obtain ⟨g, hlb, cc, _⟩ := ref_block HH.out.2.1.blocks j HH.out.2.2
          have hE : Dk.blk (Dk.over d.B d.W) j = Dk.blk d.B j := Dk.overK_off d.B d.W d.W.length j fun m hm => HN.out m (Nat.zero_le _) hm
          subst hlb
          rw [← hE, HR.out] at cc
          clear hE HN
          go_wp2_with fail
          go_ret2
          exact ⟨rfl, rfl⟩
        · obtain ⟨m, rfl⟩ : ∃ m, n = m + 1 := ⟨n - 1, by omega⟩
          obtain ⟨g, hlw, ci, cs⟩ := ref_loose HH.out.2.1.loose m (by omega)
          subst hlw
          have hlast := fun hk => Dk.overK_last d.B d.W m d.W.length (by omega) hk
          have hoff := HN.out
          have hlw := (HH.out.2.1.ok.loose _ (Dk.getD_mem d.W m (0, ByteArray.empty) (by omega))).1
          have em : ((m + 1 : Nat) : Int) - 1 = (m : Int) := by omega
          rw [em]
          have m0 : (0 : Int) ≤ (m : Int) := by omega
          have mW : (m : Int) < (d.W.length : Int) := by omega
          by_cases hq : (d.W.getD m (0, ByteArray.empty)).1 = j
          · have hE : Dk.blk (Dk.over d.B d.W) j = (d.W.getD m (0, ByteArray.empty)).2 := by
              have := hlast hlw fun x h1 h2 => by rw [hq]; exact hoff x (by omega) h2
              rw [hq] at this; exact this
            rw [← hE, HR.out] at cs
            rw [hq] at ci
            have tq : ((j : Int) == (j : Int)) = true := beq_self_eq_true _
            clear hE hlast hoff hlw hq HN
            go_wp2_with fail
            go_ret2
            exact ⟨rfl, rfl⟩
          · have tq : (((d.W.getD m (0, ByteArray.empty)).1 : Int) == (j : Int)) = false := by rw [beq_eq_false_iff_ne]; omega
            have HN2 : Hid (∀ x, m ≤ x → x < d.W.length → (d.W.getD x (0, ByteArray.empty)).1 ≠ j) := Lib.hid fun x h1 h2 => by
              by_cases hx : x = m
              · subst hx; exact hq
              · exact hoff x (by omega) h2
            clear hlast hoff hlw hq HN
            generalize ((d.W.getD m (0, ByteArray.empty)).1 : Int) = u at *
            go_wp2_with fail
            go_roundw
            case rel => exact ⟨m, by omega, by go_num, Lib.hid trivial, HN2⟩
            case measure => simp [intOf]
    · have e1 : Dk.readS d i = ByteArray.empty := by unfold Dk.readS; rw [if_neg (by rw [hg]; simp), if_neg hi]
      have e2 : Dk.readE d i = 2 := by unfold Dk.readE; rw [if_neg (by rw [hg]; simp), if_neg hi]
      rw [e1, e2]
      rw [decide_eq_false hi] at ct
      have HH := Lib.hid ct; clear ct h e1 e2 hg hi
      go_enter Try.func49, Try.ntmps49
      go_wp2_with fail
      refine HH.out.mono ?_
      rintro e w0 ⟨rfl, hw0⟩
      obtain rfl := hw0.symm
      clear hw0
      go_wp2_with fail
      go_ret2
      exact ⟨rfl, rfl⟩
end Go.Proofs.Ytednmncapfclfaa

/-
  Layer 4: what the document's Flush does.
-/
namespace Go.Proofs.Ytednmncapfclfaa
open Go.RowKit

theorem head_block {w : World} {S Av : Nat → Prop} {lb : Option Addr} {cb : Nat} {B : List ByteArray} (h : ListAt sB 1 9 w S Av lb cb B) (hB : 1 ≤ B.length) : ∃ g, lb = some ⟨g, 0, none⟩ ∧ g < w.heap.size ∧ S g ∧ ¬ Av g := by
  rcases h with ⟨_, _, h3⟩ | ⟨g, r, h1, h2, h3, h4, h5, h6, h7⟩
  · rw [h3] at hB; simp at hB
  · exact ⟨g, h1, rowV_lt h2, h6, h5⟩
set_option maxRecDepth 100000 in
set_option maxHeartbeats 1600000 in
theorem rflush_any {w : World} {S : Nat → Prop} {q cb cw : Nat} {lb lw : Option Addr} {d : Dk.D} (h : RefIn w S q cb cw lb lw d) :
    Calls Try.prog 30 #[.pointer (some ⟨q, 0, none⟩)] w fun e w' => e = .returned (.int .i64 (Dk.flushE d)) ∧ RefAt w' S q (Dk.flush d) ∧ Only S w w' := by
  have c4 := rhead_gone h.head
  have cg := goes_any h.head h.ok
  cases hg : d.gone with
  | true =>
    have e1 : Dk.flush d = d := by unfold Dk.flush; rw [if_pos hg]
    have e2 : Dk.flushE d = 7 := by unfold Dk.flushE; rw [if_pos hg]
    rw [hg] at c4
    rw [e1, e2]
    have HH := Lib.hid h; clear cg h e1 e2 hg
    go_enter Try.func30, Try.ntmps30
    go_wp2_with fail
    go_ret
    exact ⟨rfl, ⟨_, _, _, _, HH.out⟩, Only.refl _ _⟩
  | false =>
    rw [hg] at c4
    have hgf : ¬ d.gone = true := by rw [hg]; simp
    by_cases h0 : d.fuse = 0
    · have e1 : Dk.flush d = Dk.spent d := by unfold Dk.flush Dk.spent; rw [if_neg hgf, if_pos h0, if_pos h0]
      have e2 : Dk.flushE d = 7 := by unfold Dk.flushE; rw [if_neg hgf, if_pos h0]
      rw [e1, e2]
      rw [decide_eq_true h0] at cg
      have HH := Lib.hid (And.intro cg h); clear cg h e1 e2 hg hgf h0
      go_enter Try.func30, Try.ntmps30
      go_wp2_with fail
      refine HH.out.1.mono ?_
      rintro e w1 ⟨rfl, hh1, ho1⟩
      have H1 := Lib.hid (And.intro hh1 ho1); clear hh1 ho1
      go_wp2_with fail
      go_ret
      exact ⟨rfl, ⟨_, _, _, _, refIn_spent HH.out.2 H1.out.1 H1.out.2⟩, H1.out.2.mono fun k _ e => e ▸ HH.out.2.sq⟩
    · have e1 : Dk.flush d = ⟨Dk.over d.B d.W, [], Dk.burn d.fuse, d.gone⟩ := by unfold Dk.flush; rw [if_neg hgf, if_neg h0]
      have e2 : Dk.flushE d = 0 := by unfold Dk.flushE; rw [if_neg hgf, if_neg h0]
      have e4 : Dk.spent d = ⟨d.B, d.W, Dk.burn d.fuse, d.gone⟩ := by unfold Dk.spent; rw [if_neg h0]
      have hok := Dk.flush_ok h.ok
      rw [e1] at hok
      rw [e1, e2]
      rw [decide_eq_false h0] at cg
      have hlenW := listAt_len h.loose
      have hlen : d.W.length ≤ maxLen := Nat.le_trans hlenW.1 hlenW.2
      unfold maxLen at hlen
      have HH := Lib.hid (And.intro cg (And.intro h (And.intro e4 hok))); clear cg h e1 e2 e4 hg hgf h0 hok hlenW
      go_enter Try.func30, Try.ntmps30
      go_wp2_with fail
      refine HH.out.1.mono ?_
      rintro e w1 ⟨rfl, hh1, ho1⟩
      have hin := refIn_spent HH.out.2.1 hh1 ho1
      rw [HH.out.2.2.1] at hin
      obtain ⟨gb, hlb, hgl, hgS, hgA⟩ := head_block hin.blocks hin.ok.pos
      subst hlb
      have hwv : ∀ a, lw = some a → a.block ≠ gb := fun a ha e => by
        obtain ⟨g, rfl, _, _, h3⟩ := listAt_block hin.loose a ha
        exact h3 (.inr ⟨_, rfl, e.symm⟩)
      have H1 := Lib.hid (And.intro hin (And.intro ho1 (And.intro hgS (And.intro hgA hwv)))); clear hh1 ho1 hin hgl hgS hgA hwv
      go_wp2_with fail
      go_loopw [3] (fun kv wr => ∃ k : Nat, k ≤ d.W.length ∧ kv = .int .i64 (k : Int) ∧ Hid (ListAt sB 1 9 wr S (fun x => x = q) (some ⟨gb, 0, none⟩) cb (Dk.overK d.B d.W k)) ∧ Hid (Only (fun x => x = gb) w1 wr))
        (fun kv _ => d.W.length - (intOf kv).toNat)
      case atStart => exact ⟨0, by omega, rfl, Lib.hid H1.out.1.blocks, Lib.hid (Only.refl _ _)⟩
      case round =>
        obtain ⟨k, hk, rfl, HB, HO⟩ := hrel
        have hhr : RHead wr q cb cw (some ⟨gb, 0, none⟩) lw ⟨d.B, d.W, Dk.burn d.fuse, d.gone⟩ := rowV_only H1.out.1.head HO.out (fun e => H1.out.2.2.2.1 e.symm)
        have c1 := rhead_W hhr
        by_cases hlt : k < d.W.length
        · have c0 := rhead_B hhr
          obtain ⟨g, hlw, ci, cs⟩ := ref_loose (listAt_only H1.out.1.loose HO.out (fun a ha e => H1.out.2.2.2.2 a ha e)) k hlt
          subst hlw
          have hat := (H1.out.1.ok.loose _ (Dk.getD_mem d.W k (0, ByteArray.empty) hlt)).1
          have hat2 : (d.W.getD k (0, ByteArray.empty)).1 < (Dk.overK d.B d.W k).length := by rw [Dk.overK_len]; exact hat
          obtain ⟨g2, hg2, cx, fx⟩ := ref_block HB.out _ hat2
          cases hg2
          have hset := ref_set HB.out gb rfl _ hat2 (d.W.getD k (0, ByteArray.empty)).2
          have hon := HO.out.setCell (g := gb) (i := (d.W.getD k (0, ByteArray.empty)).1) (fun _ => rfl) (.string (d.W.getD k (0, ByteArray.empty)).2)
          have HE := Lib.hid (And.intro hset hon)
          have hsucc : Hid ((Dk.overK d.B d.W k).set (d.W.getD k (0, ByteArray.empty)).1 (d.W.getD k (0, ByteArray.empty)).2 = Dk.overK d.B d.W (k + 1)) := Lib.hid rfl
          clear hset hon hat2 hhr HB HO
          have hatB : ((d.W.getD k (0, ByteArray.empty)).1 : Int) < (d.B.length : Int) := by have : (d.W.getD k (0, ByteArray.empty)).1 < d.B.length := hat; omega
          clear hat
          generalize (d.W.getD k (0, ByteArray.empty)).1 = at_ at *
          generalize (d.W.getD k (0, ByteArray.empty)).2 = s at *
          generalize Dk.blk (Dk.overK d.B d.W k) at_ = old at *
          go_wp2_with fail
          refine wp_region_quiet_tail (C := fun w' => ∃ n, w' = wr.drewN n) 21 (by kernel_rfl) (by kernel_rfl) ⟨1, rfl⟩ ?_
          simp only [List.take_succ_cons, List.take_zero, List.drop_succ_cons, List.drop_zero]
          iterate 21 (go_big_quiet_step (fail))
          refine wpQuiet_nil ?_
          rintro _ ⟨nq, rfl⟩
          go_wp2_with fail
          go_roundw
          case rel => exact ⟨k + 1, by omega, by go_num, Lib.hid (by rw [← hsucc.out]; exact listAt_only HE.out.1 ((Only.refl (fun _ => False) _).drewN nq) (fun _ _ h => h)), Lib.hid (HE.out.2.drewN nq)⟩
          case measure => simp [intOf]; omega
        · obtain rfl : k = d.W.length := by omega
          have f1 := rowV_frozen hhr 1
          have hst := rowV_stored hhr 1 (.slice none 0 0)
          have hp : Only (fun x => x = q) wr (wr.setCell ⟨q, 1, none⟩ (.slice none 0 0)) := (Only.refl (fun x => x = q) wr).setCell (g := q) (i := 1) (fun _ => rfl) _
          have HE := Lib.hid (And.intro hst hp)
          clear hst hp hhr
          go_wp2_with fail
          go_ret
          obtain ⟨hst, hp⟩ := HE.out
          refine ⟨rfl, ⟨cb, 0, some ⟨gb, 0, none⟩, none, ⟨HH.out.2.2.2, ?_, ?_, .inl ⟨rfl, rfl, rfl⟩, H1.out.1.sq⟩⟩, ((H1.out.2.1.mono (G := S) fun k _ e => e ▸ H1.out.1.sq).trans (HO.out.mono (G := S) fun k _ e => e ▸ H1.out.2.2.1) fun _ _ h => h).trans (hp.mono (G := S) fun k _ e => e ▸ H1.out.1.sq) fun _ _ h => h⟩
          · unfold RHead
            rw [Dk.over_len]
            exact hst
          · exact listAt_only HB.out hp (fun a ha => by cases ha; exact fun e => H1.out.2.2.2.1 e)
end Go.Proofs.Ytednmncapfclfaa

/-
  Layer 4: what the document's Crash does.
-/
namespace Go.Proofs.Ytednmncapfclfaa
open Go.RowKit

theorem crashK_same (B : List ByteArray) (W : List (Nat × ByteArray)) (F : List Int) (k : Nat) (h : Dk.falls (F.getD k 0) (Dk.blk (Dk.crashK B W F k) (W.getD k (0, ByteArray.empty)).1) (W.getD k (0, ByteArray.empty)).2 = Dk.blk (Dk.crashK B W F k) (W.getD k (0, ByteArray.empty)).1) : Dk.crashK B W F (k + 1) = Dk.crashK B W F k := by
  rw [Dk.crashK, h]
  apply Dk.blk_ext (by rw [List.length_set])
  intro i hi
  rw [Dk.getD_set]
  split
  · rename_i h2; rw [h2.1]
  · rfl
set_option maxRecDepth 100000 in
set_option maxHeartbeats 3200000 in
theorem rcrash_any {w : World} {S : Nat → Prop} {q cb cw : Nat} {lb lw : Option Addr} {d : Dk.D} (h : RefIn w S q cb cw lb lw d) (fa : Option Addr) (F : List Int) (fc : Nat) (hF : ReadsI w fa F) (hfa : ∀ a, fa = some a → F ≠ [] → ¬ S a.block) :
    Calls Try.prog 29 #[.pointer (some ⟨q, 0, none⟩), .slice fa F.length fc] w fun e w' => e = .returned (.tuple #[]) ∧ RefAt w' S q (Dk.crash d F) ∧ Only S w w' := by
  have hlenW := listAt_len h.loose
  have hlen : d.W.length ≤ maxLen := Nat.le_trans hlenW.1 hlenW.2
  unfold maxLen at hlen
  obtain ⟨gb, hlb, hgl, hgS, hgA⟩ := head_block h.blocks h.ok.pos
  subst hlb
  have hwv : ∀ a, lw = some a → a.block ≠ gb := fun a ha e => by
    obtain ⟨g, rfl, _, _, h3⟩ := listAt_block h.loose a ha
    exact h3 (.inr ⟨_, rfl, e.symm⟩)
  have HH := Lib.hid (And.intro h (And.intro hF (And.intro hfa (And.intro hgS (And.intro hgA hwv))))); clear h hF hfa hlenW hgl hgS hgA hwv
  go_enter Try.func29, Try.ntmps29
  go_wp2_with fail
  go_loopw [4, 5, 6, 7] (fun kv _ _ _ wr => ∃ k : Nat, k ≤ d.W.length ∧ kv = .int .i64 (k : Int) ∧ Hid (ListAt sB 1 9 wr S (fun x => x = q) (some ⟨gb, 0, none⟩) cb (Dk.crashK d.B d.W F k)) ∧ Hid (Only (fun x => x = gb) w wr))
    (fun kv _ _ _ _ => d.W.length - (intOf kv).toNat)
  case atStart => exact ⟨0, by omega, rfl, Lib.hid HH.out.1.blocks, Lib.hid (Only.refl _ _)⟩
  case round =>
    obtain ⟨k, hk, rfl, HB, HO⟩ := hrel
    have hhr : RHead wr q cb cw (some ⟨gb, 0, none⟩) lw d := rowV_only HH.out.1.head HO.out (fun e => HH.out.2.2.2.2.1 e.symm)
    have c1 := rhead_W hhr
    by_cases hlt : k < d.W.length
    · have c0 := rhead_B hhr
      obtain ⟨g, hlw, ci, cs⟩ := ref_loose (listAt_only HH.out.1.loose HO.out (fun a ha e => HH.out.2.2.2.2.2 a ha e)) k hlt
      subst hlw
      have hm := HH.out.1.ok.loose _ (Dk.getD_mem d.W k (0, ByteArray.empty) hlt)
      have hat2 : (d.W.getD k (0, ByteArray.empty)).1 < (Dk.crashK d.B d.W F k).length := by rw [Dk.crashK_len]; exact hm.1
      have zK := Dk.crashK_ok F HH.out.1.ok.size HH.out.1.ok.loose k hk
      have zo := Dk.blk_size zK _ hat2
      obtain ⟨g2, hg2, cx, fx⟩ := ref_block HB.out _ hat2
      cases hg2
      have zs := hm.2
      have hatB : ((d.W.getD k (0, ByteArray.empty)).1 : Int) < (d.B.length : Int) := by have := hm.1; omega
      have hset : ∀ (x : ByteArray) (f : Int), F.getD k 0 = f → Dk.falls f (Dk.blk (Dk.crashK d.B d.W F k) (d.W.getD k (0, ByteArray.empty)).1) (d.W.getD k (0, ByteArray.empty)).2 = x → ListAt sB 1 9 (wr.setCell ⟨gb, (d.W.getD k (0, ByteArray.empty)).1, none⟩ (.string x)) S (fun x => x = q) (some ⟨gb, 0, none⟩) cb (Dk.crashK d.B d.W F (k + 1)) := fun x f hf hx => by
        have h1 := ref_set HB.out gb rfl _ hat2 x
        rw [← hx, ← hf] at h1 ⊢
        exact h1
      have hon : ∀ x, Only (fun x => x = gb) w (wr.setCell ⟨gb, (d.W.getD k (0, ByteArray.empty)).1, none⟩ (.string x)) := fun x => HO.out.setCell (g := gb) (i := (d.W.getD k (0, ByteArray.empty)).1) (fun _ => rfl) (.string x)
      have hf : ∃ f : Int, F.getD k 0 = f ∧ (k < F.length → ∃ b off, fa = some ⟨b, off, none⟩ ∧ wr.cell? ⟨b, off + k, none⟩ = some (.int .i64 f)) ∧ (¬ k < F.length → f = 0) := by
        refine ⟨_, rfl, fun hkF => ?_, fun hkF => by rw [List.getD_eq_getElem?_getD, List.getElem?_eq_none (by omega)]; rfl⟩
        obtain ⟨b, off, e1, e2⟩ := HH.out.2.1 k hkF
        refine ⟨b, off, e1, ?_⟩
        rw [HO.out.cell (p := ⟨b, off + k, none⟩) (World.block_lt_of_cell? w _ e2) (fun e => HH.out.2.2.1 _ e1 (ne_nil hkF) (by rw [show b = gb from e]; exact HH.out.2.2.2.1)), e2, List.getD_eq_getElem?_getD, List.getElem?_eq_getElem hkF]
        rfl
      obtain ⟨f, hfk, hfc, hf0⟩ := hf
      have hsame := crashK_same d.B d.W F k
      rw [hfk] at hsame
      have HE := Lib.hid (And.intro (fun x => hset x f hfk) (And.intro hon (And.intro hsame (And.intro HB.out HO.out))))
      clear hset hon hat2 hhr HB HO zK hm hsame hfk
      obtain ⟨CK2, hCK⟩ : ∃ A, Dk.crashK d.B d.W F (k + 1) = A := ⟨_, rfl⟩
      have HCK := Lib.hid hCK
      rw [hCK] at HE
      clear hCK
      generalize (d.W.getD k (0, ByteArray.empty)).1 = at_ at *
      generalize (d.W.getD k (0, ByteArray.empty)).2 = s at *
      generalize Dk.blk (Dk.crashK d.B d.W F k) at_ = old at *
      generalize Dk.crashK d.B d.W F k = CK at *
      by_cases hkF : k < F.length
      · obtain ⟨b, off, rfl, hfcell⟩ := hfc hkF
        clear hfc hf0
        by_cases f1 : f = 1
        · subst f1
          have HV : Hid (Dk.falls 1 old s = s) := Lib.hid (by unfold Dk.falls; rw [if_pos rfl])
          go_wp2_with fail
          go_quiet (fail)
          go_wp2_with fail
          go_roundw
          case rel => exact ⟨k + 1, by omega, by go_num, Lib.hid (by rw [HCK.out]; exact listAt_only (HE.out.1 _ HV.out) ((Only.refl (fun _ => False) _).drewN nq) (fun _ _ h => h)), Lib.hid ((HE.out.2.1 _).drewN nq)⟩
          case measure => simp [intOf]; omega
        · have q1 : (f == 1) = false := by rw [beq_eq_false_iff_ne]; exact f1
          by_cases f2 : f = 2
          · subst f2
            have HV : Hid (Dk.falls 2 old s = s.extract 0 256 ++ old.extract 256 512) := Lib.hid (by unfold Dk.falls; rw [if_neg (by omega), if_pos rfl])
            go_wp2_with fail
            go_quiet (fail)
            go_wp2_with fail
            generalize hwq : wr.drewN nq = wq
            have ec : wr.cell? = wq.cell? := by rw [← hwq]; rfl
            have ef : wr.frozen? = wq.frozen? := by rw [← hwq]; rfl
            rw [ec] at c0 c1 cx
            rw [ef] at fx
            have HQ : Hid (ListAt sB 1 9 (wq.setCell ⟨gb, at_, none⟩ (.string (s.extract 0 256 ++ old.extract 256 512))) S (fun x => x = q) (some ⟨gb, 0, none⟩) cb CK2 ∧ Only (fun x => x = gb) w (wq.setCell ⟨gb, at_, none⟩ (.string (s.extract 0 256 ++ old.extract 256 512)))) := Lib.hid (by
              rw [← hwq]
              exact ⟨listAt_only (HE.out.1 _ HV.out) ((Only.refl (fun _ => False) _).drewN nq) (fun _ _ h => h), (HE.out.2.1 _).drewN nq⟩)
            clear hwq ec ef
            refine wp_region_quiet_tail (C := fun w' => ∃ n, w' = wq.drewN n) 17 (by kernel_rfl) (by kernel_rfl) ⟨1, rfl⟩ ?_
            simp only [List.take_succ_cons, List.take_zero, List.drop_succ_cons, List.drop_zero]
            iterate 17 (go_big_quiet_step (fail))
            refine wpQuiet_nil ?_
            rintro _ ⟨n2, rfl⟩
            go_wp2_with fail
            go_roundw
            case rel => exact ⟨k + 1, by omega, by go_num, Lib.hid (by rw [HCK.out]; exact listAt_only HQ.out.1 ((Only.refl (fun _ => False) _).drewN n2) (fun _ _ h => h)), Lib.hid (HQ.out.2.drewN n2)⟩
            case measure => simp [intOf]; omega
          · have q2 : (f == 2) = false := by rw [beq_eq_false_iff_ne]; exact f2
            by_cases f3 : f = 3
            · subst f3
              have HV : Hid (Dk.falls 3 old s = old.extract 0 256 ++ s.extract 256 512) := Lib.hid (by unfold Dk.falls; rw [if_neg (by omega), if_neg (by omega), if_pos rfl])
              go_wp2_with fail
              go_quiet (fail)
              go_wp2_with fail
              generalize hwq : wr.drewN nq = wq
              have ec : wr.cell? = wq.cell? := by rw [← hwq]; rfl
              have ef : wr.frozen? = wq.frozen? := by rw [← hwq]; rfl
              rw [ec] at c0 c1 cx
              rw [ef] at fx
              have HQ : Hid (ListAt sB 1 9 (wq.setCell ⟨gb, at_, none⟩ (.string (old.extract 0 256 ++ s.extract 256 512))) S (fun x => x = q) (some ⟨gb, 0, none⟩) cb CK2 ∧ Only (fun x => x = gb) w (wq.setCell ⟨gb, at_, none⟩ (.string (old.extract 0 256 ++ s.extract 256 512)))) := Lib.hid (by
                rw [← hwq]
                exact ⟨listAt_only (HE.out.1 _ HV.out) ((Only.refl (fun _ => False) _).drewN nq) (fun _ _ h => h), (HE.out.2.1 _).drewN nq⟩)
              clear hwq ec ef
              refine wp_region_quiet_tail (C := fun w' => ∃ n, w' = wq.drewN n) 17 (by kernel_rfl) (by kernel_rfl) ⟨1, rfl⟩ ?_
              simp only [List.take_succ_cons, List.take_zero, List.drop_succ_cons, List.drop_zero]
              iterate 17 (go_big_quiet_step (fail))
              refine wpQuiet_nil ?_
              rintro _ ⟨n2, rfl⟩
              go_wp2_with fail
              go_roundw
              case rel => exact ⟨k + 1, by omega, by go_num, Lib.hid (by rw [HCK.out]; exact listAt_only HQ.out.1 ((Only.refl (fun _ => False) _).drewN n2) (fun _ _ h => h)), Lib.hid (HQ.out.2.drewN n2)⟩
              case measure => simp [intOf]; omega
            · have q3 : (f == 3) = false := by rw [beq_eq_false_iff_ne]; exact f3
              have HV : Hid (CK2 = CK) := Lib.hid (HE.out.2.2.1 (by unfold Dk.falls; rw [if_neg f1, if_neg f2, if_neg f3]))
              go_wp2_with fail
              go_quiet (fail)
              go_wp2_with fail
              go_roundw
              case rel => exact ⟨k + 1, by omega, by go_num, Lib.hid (by rw [HCK.out, HV.out]; exact HE.out.2.2.2.1), Lib.hid (HE.out.2.2.2.2.drewN nq)⟩
              case measure => simp [intOf]; omega
      · obtain rfl := hf0 hkF
        clear hfc hf0
        have HV : Hid (CK2 = CK) := Lib.hid (HE.out.2.2.1 (by unfold Dk.falls; rw [if_neg (by omega), if_neg (by omega), if_neg (by omega)]))
        go_wp2_with fail
        go_quiet (fail)
        go_wp2_with fail
        go_roundw
        case rel => exact ⟨k + 1, by omega, by go_num, Lib.hid (by rw [HCK.out, HV.out]; exact HE.out.2.2.2.1), Lib.hid (HE.out.2.2.2.2.drewN nq)⟩
        case measure => simp [intOf]; omega
    · obtain rfl : k = d.W.length := by omega
      have f1 := rowV_frozen hhr 1
      have f2 := rowV_frozen hhr 2
      have f3 := rowV_frozen hhr 3
      have k2 := rhead_fuse hhr
      have k3 := rhead_gone hhr
      have hst := rowV_stored (rowV_stored (rowV_stored hhr 1 (.slice none 0 0)) 3 (.bool false)) 2 (.int .i64 (-1))
      have hp : Only (fun x => x = q) wr (((wr.setCell ⟨q, 1, none⟩ (.slice none 0 0)).setCell ⟨q, 3, none⟩ (.bool false)).setCell ⟨q, 2, none⟩ (.int .i64 (-1))) := (((Only.refl (fun x => x = q) wr).setCell (g := q) (i := 1) (fun _ => rfl) _).setCell (g := q) (i := 3) (fun _ => rfl) _).setCell (g := q) (i := 2) (fun _ => rfl) _
      have HE := Lib.hid (And.intro hst hp)
      clear hst hp hhr
      go_wp2_with fail
      go_end0
      obtain ⟨hst, hp⟩ := HE.out
      refine ⟨rfl, ⟨cb, 0, some ⟨gb, 0, none⟩, none, ⟨Dk.crash_ok HH.out.1.ok F, ?_, ?_, .inl ⟨rfl, rfl, rfl⟩, HH.out.1.sq⟩⟩, (HO.out.mono (G := S) fun k _ e => e ▸ HH.out.2.2.2.1).trans (hp.mono (G := S) fun k _ e => e ▸ HH.out.1.sq) fun _ _ h => h⟩
      · unfold RHead Dk.crash
        rw [Dk.crashK_len]
        exact hst
      · exact listAt_only HB.out hp (fun a ha => by cases ha; exact fun e => HH.out.2.2.2.2.1 e)
end Go.Proofs.Ytednmncapfclfaa

/-
  Layer 4: what the document's New does.
-/
namespace Go.Proofs.Ytednmncapfclfaa
open Go.RowKit

theorem run_make_bytes (w : World) : (Instr.makeSlice 74 (.int .i64 512) (.int .i64 512)).run Try.prog w = .ok (.slice (some ⟨w.heap.size, 0, none⟩) 512 512) (w.alloc (.cells (bv Dk.zeros).toArray 5)) := by
  obtain ⟨i, hi, hi2⟩ := Option.map_eq_some_iff.1 info_byte
  simp only [Prod.mk.injEq] at hi2
  have hr := run_make (P := Try.prog) w 74 5 i _ Try.underlying74 hi hi2.1 .i64 .i64 512 512 (by omega) (Int.le_refl _) (by rw [hi2.2.2]; omega) (by omega)
  rw [hr, hi2.2.1]
  have e : madeCells (Value.int .u8 0).cells ((512 : Int).toNat * 1) = (bv Dk.zeros).toArray := by
    show madeCells #[Value.int .u8 0] 512 = _
    rw [bv_zeros]
    unfold madeCells
    apply Array.ext_getElem?
    intro j
    have e2 : (List.replicate 512 (Value.int .u8 0)).toArray[j]? = (List.replicate 512 (Value.int .u8 0))[j]? := List.getElem?_toArray ..
    rw [Array.getElem?_map, e2, List.getElem?_replicate, Array.getElem?_range]
    by_cases h : j < 512
    · rw [if_pos h, if_pos h, Option.map_some]
      have : j % (#[Value.int .u8 0] : Array Value).size = 0 := by show j % 1 = 0; omega
      rw [this]; rfl
    · rw [if_neg h, if_neg h, Option.map_none]
  show Result.ok _ (w.alloc (.cells (madeCells (Value.int .u8 0).cells ((512 : Int).toNat * 1)) _)) = _
  rw [e]; rfl
def lenAt (w : World) (p : Nat) : Nat := match w.cell? ⟨p, 0, none⟩ with
  | some (.slice _ l _) => l
  | _ => 0
theorem rep_len (k : Nat) : (List.replicate k Dk.zeros).length = k := List.length_replicate
theorem lenAt_eq {w : World} {p l c : Nat} {a : Option Addr} (h : w.cell? ⟨p, 0, none⟩ = some (.slice a l c)) : lenAt w p = l := by unfold lenAt; rw [h]
/-- what the document's New answers -/
def RNewPost (n : Int) (w : World) (e : Ending) (w' : World) : Prop :=
  (¬ (1 ≤ n ∧ n ≤ 4096) ∧ e = .returned (.tuple #[.pointer none, .int .i64 2]) ∧ w' = w) ∨
  (1 ≤ n ∧ n ≤ 4096 ∧ ∃ q, e = .returned (.tuple #[.pointer (some ⟨q, 0, none⟩), .int .i64 0]) ∧ RefAt w' (fun k => w.heap.size ≤ k) q (Dk.new n.toNat) ∧ Below w.heap.size w w')
/-- the disk while its blocks are laid -/
structure Half (w0 w : World) (q k : Nat) : Prop where
  head : ∃ lb cb, RHead w q cb 0 lb none (Dk.new k) ∧ ListAt sB 1 9 w (fun j => w0.heap.size ≤ j) (fun x => x = q) lb cb (List.replicate k Dk.zeros)
  below : Below w0.heap.size w0 w
  here : w0.heap.size ≤ q

set_option maxRecDepth 100000 in
set_option maxHeartbeats 1600000 in
theorem rnew_any (n : Int) (w : World) : Calls Try.prog 10 #[.int .i64 n] w fun e w' => RNewPost n w e w' := by
  by_cases h1 : n < 1
  · go_enter Try.func10, Try.ntmps10
    go_wp2_with fail
    go_ret2
    exact .inl ⟨by omega, rfl, rfl⟩
  · by_cases h2 : 4096 < n
    · go_enter Try.func10, Try.ntmps10
      go_wp2_with fail
      go_ret2
      exact .inl ⟨by omega, rfl, rfl⟩
    · obtain ⟨m, rfl⟩ : ∃ m : Nat, n = (m : Int) := ⟨n.toNat, by omega⟩
      go_enter Try.func10, Try.ntmps10
      go_wp2_with fail
      have hst : Half w (w.alloc (.cells #[.slice none 0 0, .slice none 0 0, .int .i64 (-1), .bool false] 73)) w.heap.size 0 :=
        ⟨⟨none, 0, rowV_new w _ [_, _, _, _], .inl ⟨rfl, rfl, rfl⟩⟩, (Below.refl _ w).alloc (Nat.le_refl _) _, Nat.le_refl _⟩
      have HST := Lib.hid hst
      clear hst
      go_loopw [13] (fun _ wr => ∃ k : Nat, k ≤ m ∧ Hid (Half w wr w.heap.size k)) (fun _ wr => m - lenAt wr w.heap.size)
      case atStart => exact ⟨0, by omega, HST.out⟩
      case round =>
        obtain ⟨k, hk, HK⟩ := hrel
        obtain ⟨⟨lb, cb, hh, hl⟩, hbel, hhere⟩ := HK.out
        have c0 := rhead_B hh
        have hlk : (Dk.new k).B.length = k := by show (List.replicate k Dk.zeros).length = k; rw [List.length_replicate]
        rw [hlk] at c0
        by_cases hlt : k < m
        · have hsz := hbel.size
          have lq := rowV_lt hh
          have hZ := rep_len k
          obtain ⟨il, hil, hil2⟩ := Option.map_eq_some_iff.1 info_str
          simp only [Prod.mk.injEq] at hil2
          have hoa : ∀ F : Nat → Prop, Only F wr (((wr.alloc (.cells (bv Dk.zeros).toArray 5)).alloc (.cells #[.string Dk.zeros] 9)).drew) := fun F => (((Only.refl F wr).alloc _).alloc _).drew
          have hNrow : RowV (((wr.alloc (.cells (bv Dk.zeros).toArray 5)).alloc (.cells #[.string Dk.zeros] 9)).drew) (wr.heap.size + 1) 9 (sB Dk.zeros) := by
            have h := rowV_new (wr.alloc (.cells (bv Dk.zeros).toArray 5)) 9 [.string Dk.zeros]
            rw [World.size_alloc] at h
            exact h
          have hap := append_list (P := Try.prog) (w := ((wr.alloc (.cells (bv Dk.zeros).toArray 5)).alloc (.cells #[.string Dk.zeros] 9)).drew) (W := List.replicate k Dk.zeros) 39 39 il _ 16 Try.underlying39 hil hil2.1 hil2.2.1 hil2.2.2 rfl (by omega)
            (listAt_only hl (hoa fun _ => False) (fun _ _ h => h)) (fun _ _ => rfl) Dk.zeros rfl (by intro v hv; simp only [sB, List.mem_singleton] at hv; rw [hv]; rfl) (wr.heap.size + 1) hNrow (by rw [hZ]; omega) (by rw [hZ]; omega) (by rw [hZ]; unfold maxLen; omega) (fun x hx => by rw [hx]; simp; omega)
          rw [hZ] at hap
          obtain ⟨la', cap', w5, hrun, hL5, ho5⟩ := hap
          have ho15 := (hoa (fun j => w.heap.size ≤ j ∧ ¬ j = w.heap.size)).more ho5
          have hh5 : RHead w5 w.heap.size cb 0 lb none (Dk.new k) := rowV_only hh ho15 (fun h => h.2 rfl)
          have f05 := rowV_frozen hh5 0
          have c05 := rhead_B hh5
          rw [hlk] at c05
          have hst := rowV_stored hh5 0 (.slice la' (k + 1) cap')
          have hbel5 : Below w.heap.size w w5 := hbel.trans (ho15.below (fun j _ h => h.1) hsz)
          have hsnoc : List.replicate k Dk.zeros ++ [Dk.zeros] = List.replicate (k + 1) Dk.zeros := by rw [List.replicate_succ']
          rw [hsnoc] at hL5
          have hhalf : Half w (w5.setCell ⟨w.heap.size, 0, none⟩ (.slice la' (k + 1) cap')) w.heap.size (k + 1) := by
            have hp : Only (fun j => j = w.heap.size) w5 (w5.setCell ⟨w.heap.size, 0, none⟩ (.slice la' (k + 1) cap')) := (Only.refl (fun j => j = w.heap.size) w5).setCell (g := w.heap.size) (i := 0) (fun _ => rfl) _
            have hm5 := listAt_mono (S' := fun j => w.heap.size ≤ j) (Av' := fun x => x = w.heap.size) hL5 (fun j _ h => h.elim id fun h => by simp at h; omega) (fun _ _ h => h)
            refine ⟨⟨la', cap', ?_, ?_⟩, hbel5.setCell (p := ⟨w.heap.size, 0, none⟩) (Nat.le_refl _) _, Nat.le_refl _⟩
            · have e : (Dk.new (k + 1)).B.length = k + 1 := rep_len (k + 1)
              unfold RHead
              rw [e]
              exact hst
            · refine listAt_only hm5 hp fun a ha => ?_
              obtain ⟨g, rfl, _, _, h3⟩ := listAt_block hm5 a ha
              exact h3
          have hS5 : w5.cell? ⟨w.heap.size, 0, none⟩ = some (.slice lb k cb) := c05
          have hS1 : ((wr.alloc (.cells (bv Dk.zeros).toArray 5)).drew).cell? ⟨w.heap.size, 0, none⟩ = some (.slice lb k cb) := by
            show (wr.alloc _).cell? _ = _
            rw [World.cell?_alloc_lt _ _ _ (show (⟨w.heap.size, 0, none⟩ : Addr).block < wr.heap.size from lq)]; exact c0
          have hS2 : (((wr.alloc (.cells (bv Dk.zeros).toArray 5)).alloc (.cells #[.string Dk.zeros] 9)).drew).cell? ⟨w.heap.size, 0, none⟩ = some (.slice lb k cb) := by
            show ((wr.alloc _).alloc _).cell? _ = _
            rw [World.cell?_alloc_lt _ _ _ (show (⟨w.heap.size, 0, none⟩ : Addr).block < (wr.alloc (.cells (bv Dk.zeros).toArray 5)).heap.size by simp; omega)]; exact hS1
          have hcv : (convert 74 9 (.slice (some ⟨wr.heap.size, 0, none⟩) 512 512)).run Try.prog ((wr.alloc (.cells (bv Dk.zeros).toArray 5)).drew) = .ok (.string Dk.zeros) ((wr.alloc (.cells (bv Dk.zeros).toArray 5)).drew) :=
            conv_block ((wr.alloc (.cells (bv Dk.zeros).toArray 5)).drew) wr.heap.size 0 512 Dk.zeros Dk.zeros_size (rowV_range (show RowV ((wr.alloc (.cells (bv Dk.zeros).toArray 5)).drew) wr.heap.size 5 (bv Dk.zeros) from rowV_new wr 5 (bv Dk.zeros)) 0 (bv Dk.zeros) (fun j _ => by rw [Nat.zero_add]))
          have hmk : (Instr.makeSlice 74 (.int .i64 512) (.int .i64 512)).run Try.prog wr.drew = .ok (.slice (some ⟨wr.heap.size, 0, none⟩) 512 512) ((wr.alloc (.cells (bv Dk.zeros).toArray 5)).drew) := run_make_bytes wr.drew
          have HF := Lib.hid (And.intro hhalf (And.intro hS5 (And.intro hS1 (And.intro hS2 hrun))))
          clear hhalf hS5 hS1 hS2 hrun hst hbel5 hL5 ho15 ho5 hh5 hoa hil hil2 hl hh HK hZ hsnoc hbel
          obtain ⟨ZZ, hZZ⟩ : ∃ ZZ, Dk.zeros = ZZ := ⟨_, rfl⟩
          rw [hZZ] at hcv hmk HF
          have HZ := Lib.hid hZZ
          clear hZZ
          go_wp2_with fail
          refine wp_region_held_tail (S := fun w' => w'.cell? ⟨w.heap.size, 0, none⟩ = some (.slice lb k cb)) 5 9 (by omega) (by kernel_rfl) (fun _ d _ _ _ h => by cases d <;> exact h) (by kernel_rfl) c0 ?_
          simp only [List.take_succ_cons, List.take_zero, List.drop_succ_cons, List.drop_zero]
          iterate 5
            refine wpYield_step ?_
            apply Exists.intro
            refine ⟨⟨by rfl, fun wx hSx => ?_⟩, ?_⟩
            · go_simp
              with_reducible rfl
            simp only [Act.put, List.setIfInBounds_toArray, List.set_cons_zero, List.set_cons_succ]
          refine wpKeep_step rfl rfl fun K hK => ?_
          go_simp
          refine hK _ _ HF.out.2.2.1 ?_
          refine wpKeep_step rfl rfl fun K hK => ?_
          go_simp
          refine hK _ _ HF.out.2.2.1 ?_
          refine wpKeep_step rfl rfl fun K hK => ?_
          go_simp
          refine hK _ _ HF.out.2.2.2.1 ?_
          refine wpKeep_step rfl rfl fun K hK => wp_run_append (.tmp 24) (.tmp 27) 39 rfl _ _ rfl rfl _ _ HF.out.2.2.2.2 (hK _ _ HF.out.2.1 ?_)
          show wpList _ _ _ _ _ w5
          simp only [Act.put, List.setIfInBounds_toArray]
          go_wp2_with fail
          go_roundw
          case rel => exact ⟨k + 1, by omega, Lib.hid HF.out.1⟩
          case measure =>
            obtain ⟨⟨lb2, cb2, hh2, _⟩, _, _⟩ := HF.out.1
            have e2 := rhead_B hh2
            have e3 : (Dk.new (k + 1)).B.length = k + 1 := rep_len (k + 1)
            rw [e3] at e2
            rw [lenAt_eq c0, lenAt_eq e2]
            omega
        · obtain rfl : k = m := by omega
          have hh2 := HK.out
          clear HK
          have HE := Lib.hid hh2
          clear hh2 hh hl hbel
          go_wp2_with fail
          go_ret2
          obtain ⟨⟨lb2, cb2, hh2, hl2⟩, hb2, _⟩ := HE.out
          refine .inr ⟨by omega, by omega, w.heap.size, rfl, ?_, hb2⟩
          rw [show ((k : Int)).toNat = k from by omega]
          exact ⟨cb2, 0, lb2, none, Dk.new_ok k (by omega) (by omega), hh2, hl2, .inl ⟨rfl, rfl, rfl⟩, Nat.le_refl _⟩
end Go.Proofs.Ytednmncapfclfaa

/-
  Layer 4's laws: the program's disk and the document's, side by side.
-/
namespace Go.Proofs.Ytednmncapfclfaa
open Go.RowKit
/-- both disks, apart from each other and from what X names -/
def Two (w : World) (X : Nat → Prop) (p q : Nat) (d e : Dk.D) : Prop := ∃ Sd Sr : Nat → Prop, DiskAtL w Sd Sd p d ∧ RefAt w Sr q e ∧ (∀ k, Sd k → Sr k → False) ∧ (∀ k, Sd k → ¬ X k ∧ k < w.heap.size) ∧ (∀ k, Sr k → ¬ X k ∧ k < w.heap.size) ∧ ∀ k, X k → k < w.heap.size
theorem diskAtL_mono {S S' L L' : Nat → Prop} {w : World} {p : Nat} {d : Dk.D} (h : DiskAtL w S L p d) (hs : ∀ k, k < w.heap.size → S k → S' k) (hl : ∀ k, k < w.heap.size → L k → L' k) : DiskAtL w S' L' p d := by
  obtain ⟨_, _, _, _, _, _, h, hL⟩ := h
  exact ⟨_, _, _, _, _, _, diskIn_mono h hs, fun a ha => hl _ (looseAt_lt h.loose a ha) (hL a ha)⟩
theorem diskAtL_only {F S L : Nat → Prop} {w w' : World} {p : Nat} {d : Dk.D} (h : DiskAtL w S L p d) (ho : Only F w w') (h1 : ∀ k, S k → ¬ F k) (h2 : ∀ k, L k → ¬ F k) : DiskAtL w' S L p d := by
  obtain ⟨_, _, _, _, _, _, h, hL⟩ := h
  exact ⟨_, _, _, _, _, _, diskIn_only h ho (h1 _ h.sp) (h1 _ h.sn) (h1 _ h.sk) (fun a ha => h2 _ (hL a ha)), hL⟩
section
variable {w : World} {X : Nat → Prop} {p q : Nat} {d e : Dk.D}
theorem two_less {Y : Nat → Prop} (h : Two w X p q d e) (hY : ∀ k, Y k → X k) : Two w Y p q d e := by
  obtain ⟨Sd, Sr, h1, h2, h3, h4, h5, h6⟩ := h
  exact ⟨Sd, Sr, h1, h2, h3, fun k hk => ⟨fun hy => (h4 k hk).1 (hY k hy), (h4 k hk).2⟩, fun k hk => ⟨fun hy => (h5 k hk).1 (hY k hy), (h5 k hk).2⟩, fun k hk => h6 k (hY k hk)⟩
/-- a step that turns nothing that was there, and what it names from there on -/
theorem two_below {w' : World} (h : Two w X p q d e) (hb : Below w.heap.size w w') : Two w' X p q d e := by
  obtain ⟨Sd, Sr, h1, h2, h3, h4, h5, h6⟩ := h
  have ho : Only (fun _ => False) w w' := Only.of_none hb
  exact ⟨Sd, Sr, diskAtL_only h1 ho (fun _ _ h => h) (fun _ _ h => h), refAt_only h2 ho (fun _ _ _ h => h), h3, fun k hk => ⟨(h4 k hk).1, Nat.lt_of_lt_of_le (h4 k hk).2 hb.size⟩, fun k hk => ⟨(h5 k hk).1, Nat.lt_of_lt_of_le (h5 k hk).2 hb.size⟩, fun k hk => Nat.lt_of_lt_of_le (h6 k hk) hb.size⟩
/-- a block more that both leave alone -/
theorem two_more {w' : World} (h : Two w X p q d e) (hb : Below w.heap.size w w') (hw : w.heap.size < w'.heap.size) : Two w' (fun k => X k ∨ k = w.heap.size) p q d e := by
  have h' := two_below h hb
  obtain ⟨Sd, Sr, h1, h2, h3, h4, h5, h6⟩ := h
  have ho : Only (fun _ => False) w w' := Only.of_none hb
  refine ⟨Sd, Sr, diskAtL_only h1 ho (fun _ _ h => h) (fun _ _ h => h), refAt_only h2 ho (fun _ _ _ h => h), h3, fun k hk => ⟨fun hx => hx.elim (h4 k hk).1 fun e => ?_, Nat.lt_of_lt_of_le (h4 k hk).2 hb.size⟩, fun k hk => ⟨fun hx => hx.elim (h5 k hk).1 fun e => ?_, Nat.lt_of_lt_of_le (h5 k hk).2 hb.size⟩, fun k hk => hk.elim (fun hx => Nat.lt_of_lt_of_le (h6 k hx) hb.size) fun e => by omega⟩
  · have := (h4 k hk).2; omega
  · have := (h5 k hk).2; omega
/-- a call of the program's disk, the document's let be -/
theorem two_prog (h : Two w X p q d e) {f : FuncId} {args : Array Value} {R : Ending} {d' : Dk.D}
    (hc : ∀ S : Nat → Prop, DiskAtL w S S p d → (∀ k, w.heap.size ≤ k → S k) → (∀ k, S k → ¬ X k) → Calls Try.prog f args w fun en w' => en = R ∧ DiskAtL w' S S p d' ∧ Only S w w') :
    Calls Try.prog f args w fun en w' => en = R ∧ Two w' X p q d' e ∧ Only (fun k => ¬ X k) w w' := by
  obtain ⟨Sd, Sr, h1, h2, h3, h4, h5, h6⟩ := h
  have hX : ∀ k, (Sd k ∨ w.heap.size ≤ k) → ¬ X k := fun k hk hx => hk.elim (fun hs => (h4 k hs).1 hx) fun hs => by have := h6 k hx; omega
  refine (hc (fun k => Sd k ∨ w.heap.size ≤ k) (diskAtL_mono h1 (fun _ _ h => .inl h) (fun _ _ h => .inl h)) (fun _ h => .inr h) hX).mono fun en w' ⟨e1, hd, ho⟩ => ⟨e1, ?_, ho.mono fun k _ hk => hX k hk⟩
  refine ⟨fun k => (Sd k ∨ w.heap.size ≤ k) ∧ k < w'.heap.size, Sr, diskAtL_mono hd (fun k hk hs => ⟨hs, hk⟩) (fun k hk hs => ⟨hs, hk⟩), refAt_only h2 ho fun k hk hr hs => hs.elim (fun hs => h3 k hs hr) fun hs => by omega, ?_, fun k hk => ⟨hX k hk.1, hk.2⟩, fun k hk => ⟨(h5 k hk).1, Nat.lt_of_lt_of_le (h5 k hk).2 ho.size⟩, fun k hk => Nat.lt_of_lt_of_le (h6 k hk) ho.size⟩
  exact fun k hk hr => hk.1.elim (fun hs => h3 k hs hr) fun hs => by have := (h5 k hr).2; omega
/-- a call of the document's disk, the program's let be -/
theorem two_ref (h : Two w X p q d e) {f : FuncId} {args : Array Value} {R : Ending} {e' : Dk.D}
    (hc : ∀ S : Nat → Prop, RefAt w S q e → (∀ k, w.heap.size ≤ k → S k) → (∀ k, S k → ¬ X k) → Calls Try.prog f args w fun en w' => en = R ∧ RefAt w' S q e' ∧ Only S w w') :
    Calls Try.prog f args w fun en w' => en = R ∧ Two w' X p q d e' ∧ Only (fun k => ¬ X k) w w' := by
  obtain ⟨Sd, Sr, h1, h2, h3, h4, h5, h6⟩ := h
  have hX : ∀ k, (Sr k ∨ w.heap.size ≤ k) → ¬ X k := fun k hk hx => hk.elim (fun hs => (h5 k hs).1 hx) fun hs => by have := h6 k hx; omega
  have hA : ∀ k, Sd k → ¬ (Sr k ∨ w.heap.size ≤ k) := fun k hk hs => hs.elim (fun hs => h3 k hk hs) fun hs => by have := (h4 k hk).2; omega
  refine (hc (fun k => Sr k ∨ w.heap.size ≤ k) (refAt_mono h2 (fun _ _ h => .inl h)) (fun _ h => .inr h) hX).mono fun en w' ⟨e1, hd, ho⟩ => ⟨e1, ?_, ho.mono fun k _ hk => hX k hk⟩
  refine ⟨Sd, fun k => (Sr k ∨ w.heap.size ≤ k) ∧ k < w'.heap.size, diskAtL_only h1 ho hA hA, refAt_mono hd (fun k hk hs => ⟨hs, hk⟩), fun k hk hr => hA k hk hr.1, fun k hk => ⟨(h4 k hk).1, Nat.lt_of_lt_of_le (h4 k hk).2 ho.size⟩, fun k hk => ⟨hX k hk.1, hk.2⟩, fun k hk => Nat.lt_of_lt_of_le (h6 k hk) ho.size⟩
theorem two_write (h : Two w X p q d e) (i : Int) (s : ByteArray) (hW : d.W.length ≤ 1000000) :
    Calls Try.prog 31 #[.pointer (some ⟨p, 0, none⟩), .int .i64 i, .string s] w fun en w' => en = .returned (.int .i64 (Dk.writeE d i s)) ∧ Two w' X p q (Dk.write d i s) e ∧ Only (fun k => ¬ X k) w w' :=
  two_prog h fun _ hd hS _ => write_upL hd hS (fun _ h => h) i s hW
theorem two_flush (h : Two w X p q d e) :
    Calls Try.prog 22 #[.pointer (some ⟨p, 0, none⟩)] w fun en w' => en = .returned (.int .i64 (Dk.flushE d)) ∧ Two w' X p q (Dk.flush d) e ∧ Only (fun k => ¬ X k) w w' :=
  two_prog h fun _ hd _ _ => flush_upL hd (fun _ h => h)
theorem two_arm (h : Two w X p q d e) (n : Int) (h1 : -9223372036854775808 ≤ n) (h2 : n ≤ 9223372036854775807) :
    Calls Try.prog 27 #[.pointer (some ⟨p, 0, none⟩), .int .i64 n] w fun en w' => en = .returned (.int .i64 (Dk.armE d)) ∧ Two w' X p q (Dk.arm d n) e ∧ Only (fun k => ¬ X k) w w' :=
  two_prog h fun _ hd _ _ => arm_upL hd n h1 h2
theorem two_crash (h : Two w X p q d e) (fa : Option Addr) (F : List Int) (fc : Nat) (hF : ReadsI w fa F) (hfa : ∀ a, fa = some a → F ≠ [] → X a.block) :
    Calls Try.prog 23 #[.pointer (some ⟨p, 0, none⟩), .slice fa F.length fc] w fun en w' => en = .returned (.int .i64 0) ∧ Two w' X p q (Dk.crash d F) e ∧ Only (fun k => ¬ X k) w w' :=
  two_prog h fun _ hd hS hX => crash_upL hd hS (fun _ h => h) fa F fc hF fun a ha hne hs => hX _ hs (hfa a ha hne)
theorem two_read (h : Two w X p q d e) (i : Int) : Calls Try.prog 24 #[.pointer (some ⟨p, 0, none⟩), .int .i64 i] w fun en w' => en = .returned (.tuple #[.string (Dk.readS d i), .int .i64 (Dk.readE d i)]) ∧ w' = w := by
  obtain ⟨_, _, h1, _⟩ := h
  exact read_up (atL_at h1) i
theorem two_len (h : Two w X p q d e) : Calls Try.prog 54 #[.pointer (some ⟨p, 0, none⟩)] w fun en w' => en = .returned (.int .i64 (d.B.length : Int)) ∧ w' = w := by
  obtain ⟨_, _, h1, _⟩ := h
  exact len_up (atL_at h1)
theorem two_rwrite (h : Two w X p q d e) (i : Int) (s : ByteArray) (hW : e.W.length ≤ 1000000) :
    Calls Try.prog 32 #[.pointer (some ⟨q, 0, none⟩), .int .i64 i, .string s] w fun en w' => en = .returned (.int .i64 (Dk.writeE e i s)) ∧ Two w' X p q d (Dk.write e i s) ∧ Only (fun k => ¬ X k) w w' :=
  two_ref h fun _ ⟨_, _, _, _, hr⟩ hS _ => rwrite_any hr hS i s hW
theorem two_rflush (h : Two w X p q d e) :
    Calls Try.prog 30 #[.pointer (some ⟨q, 0, none⟩)] w fun en w' => en = .returned (.int .i64 (Dk.flushE e)) ∧ Two w' X p q d (Dk.flush e) ∧ Only (fun k => ¬ X k) w w' :=
  two_ref h fun _ ⟨_, _, _, _, hr⟩ _ _ => rflush_any hr
theorem refIn_arm {S : Nat → Prop} {cb cw : Nat} {lb lw : Option Addr} (h : RefIn w S q cb cw lb lw e) (n : Int) (h1 : -9223372036854775808 ≤ n) (h2 : n ≤ 9223372036854775807) {w' : World} (hh : RHead w' q cb cw lb lw (Dk.arm e n)) (ho : Only (fun k => k = q) w w') : RefIn w' S q cb cw lb lw (Dk.arm e n) := by
  have eB : (Dk.arm e n).B = e.B := by unfold Dk.arm; split <;> rfl
  have eW : (Dk.arm e n).W = e.W := by unfold Dk.arm; split <;> rfl
  refine ⟨Dk.arm_ok h.ok n h1 h2, hh, ?_, ?_, h.sq⟩
  · rw [eB]
    refine listAt_only h.blocks ho fun a ha => ?_
    obtain ⟨g, rfl, _, _, h3⟩ := listAt_block h.blocks a ha
    exact h3
  · rw [eW]
    refine listAt_only h.loose ho fun a ha => ?_
    obtain ⟨g, rfl, _, _, h3⟩ := listAt_block h.loose a ha
    exact fun e => h3 (.inl e)
theorem two_rarm (h : Two w X p q d e) (n : Int) (h1 : -9223372036854775808 ≤ n) (h2 : n ≤ 9223372036854775807) :
    Calls Try.prog 28 #[.pointer (some ⟨q, 0, none⟩), .int .i64 n] w fun en w' => en = .returned (.int .i64 (Dk.armE e)) ∧ Two w' X p q d (Dk.arm e n) ∧ Only (fun k => ¬ X k) w w' :=
  two_ref h fun _ ⟨_, _, _, _, hr⟩ _ _ => (rarm_any hr.head n).mono fun _ _ ⟨e1, hh, ho⟩ => ⟨e1, ⟨_, _, _, _, refIn_arm hr n h1 h2 hh ho⟩, ho.mono fun _ _ e => e ▸ hr.sq⟩
theorem two_rcrash (h : Two w X p q d e) (fa : Option Addr) (F : List Int) (fc : Nat) (hF : ReadsI w fa F) (hfa : ∀ a, fa = some a → F ≠ [] → X a.block) :
    Calls Try.prog 29 #[.pointer (some ⟨q, 0, none⟩), .slice fa F.length fc] w fun en w' => en = .returned (.tuple #[]) ∧ Two w' X p q d (Dk.crash e F) ∧ Only (fun k => ¬ X k) w w' :=
  two_ref h fun _ ⟨_, _, _, _, hr⟩ _ hX => rcrash_any hr fa F fc hF fun a ha hne hs => hX _ hs (hfa a ha hne)
theorem two_rread (h : Two w X p q d e) (i : Int) : Calls Try.prog 49 #[.pointer (some ⟨q, 0, none⟩), .int .i64 i] w fun en w' => en = .returned (.tuple #[.string (Dk.readS e i), .int .i64 (Dk.readE e i)]) ∧ w' = w := by
  obtain ⟨_, _, _, ⟨_, _, _, _, hr⟩, _⟩ := h
  exact rread_any hr i
/-- the document's disk's two lengths, as they are loaded -/
theorem two_cells (h : Two w X p q d e) : ∃ lb cb lw cw, w.cell? ⟨q, 0, none⟩ = some (.slice lb e.B.length cb) ∧ w.cell? ⟨q, 1, none⟩ = some (.slice lw e.W.length cw) := by
  obtain ⟨_, _, _, ⟨_, _, _, _, hr⟩, _⟩ := h
  exact ⟨_, _, _, _, rhead_B hr.head, rhead_W hr.head⟩
end
end Go.Proofs.Ytednmncapfclfaa

/-
  The program's disk alone, apart from the blocks that are named; its calls. (Layer 4's, for the layers above.)
-/
namespace Go.Proofs.Ytednmncapfclfaa
open Go.RowKit
section
variable {w : World} {S L : Nat → Prop} {p : Nat} {d : Dk.D}
theorem diskAtL_below {w' : World} (h : DiskAtL w S L p d) (hb : Below w.heap.size w w') : DiskAtL w' S L p d :=
  diskAtL_only h (Only.of_none (F := fun _ => False) hb) (fun _ _ h => h) (fun _ _ h => h)
theorem diskAtL_ok (h : DiskAtL w S L p d) : Dk.Ok d := by
  obtain ⟨_, _, _, _, _, _, h, _⟩ := h
  exact h.ok
end
theorem readS_size {d : Dk.D} (h : Dk.Ok d) (i : Int) : (Dk.readS d i).size ≤ maxLen := by
  unfold Dk.readS maxLen
  split
  · show 0 ≤ _; omega
  · split
    · rename_i hi
      rw [Dk.blk_size (Dk.over_ok h.size h.loose) i.toNat (by rw [Dk.over_len]; omega)]; omega
    · show 0 ≤ _; omega
/-- the disk, apart from what X names -/
def One (w : World) (X : Nat → Prop) (p : Nat) (d : Dk.D) : Prop := ∃ Sd : Nat → Prop, DiskAtL w Sd Sd p d ∧ (∀ k, Sd k → ¬ X k ∧ k < w.heap.size) ∧ ∀ k, X k → k < w.heap.size
section
variable {w : World} {X : Nat → Prop} {p : Nat} {d : Dk.D}
theorem one_less {Y : Nat → Prop} (h : One w X p d) (hY : ∀ k, Y k → X k) : One w Y p d := by
  obtain ⟨Sd, h1, h2, h3⟩ := h
  exact ⟨Sd, h1, fun k hk => ⟨fun hy => (h2 k hk).1 (hY k hy), (h2 k hk).2⟩, fun k hk => h3 k (hY k hk)⟩
theorem one_below {w' : World} (h : One w X p d) (hb : Below w.heap.size w w') : One w' X p d := by
  obtain ⟨Sd, h1, h2, h3⟩ := h
  exact ⟨Sd, diskAtL_below h1 hb, fun k hk => ⟨(h2 k hk).1, Nat.lt_of_lt_of_le (h2 k hk).2 hb.size⟩, fun k hk => Nat.lt_of_lt_of_le (h3 k hk) hb.size⟩
/-- a block more that it leaves alone -/
theorem one_more {w' : World} (h : One w X p d) (hb : Below w.heap.size w w') (hw : w.heap.size < w'.heap.size) : One w' (fun k => X k ∨ k = w.heap.size) p d := by
  obtain ⟨Sd, h1, h2, h3⟩ := h
  refine ⟨Sd, diskAtL_below h1 hb, fun k hk => ⟨fun hx => hx.elim (h2 k hk).1 fun e => ?_, Nat.lt_of_lt_of_le (h2 k hk).2 hb.size⟩, fun k hk => hk.elim (fun hx => Nat.lt_of_lt_of_le (h3 k hx) hb.size) fun e => by omega⟩
  have := (h2 k hk).2; omega
/-- a step that turns blocks of X alone -/
theorem one_at {w' : World} {F : Nat → Prop} (h : One w X p d) (ho : Only F w w') (hF : ∀ k, F k → X k) : One w' X p d := by
  obtain ⟨Sd, h1, h2, h3⟩ := h
  exact ⟨Sd, diskAtL_only h1 ho (fun k hk hf => (h2 k hk).1 (hF k hf)) (fun k hk hf => (h2 k hk).1 (hF k hf)), fun k hk => ⟨(h2 k hk).1, Nat.lt_of_lt_of_le (h2 k hk).2 ho.size⟩, fun k hk => Nat.lt_of_lt_of_le (h3 k hk) ho.size⟩
theorem one_prog (h : One w X p d) {f : FuncId} {args : Array Value} {R : Ending} {d' : Dk.D}
    (hc : ∀ S : Nat → Prop, DiskAtL w S S p d → (∀ k, w.heap.size ≤ k → S k) → (∀ k, S k → ¬ X k) → Calls Try.prog f args w fun en w' => en = R ∧ DiskAtL w' S S p d' ∧ Only S w w') :
    Calls Try.prog f args w fun en w' => en = R ∧ One w' X p d' ∧ Only (fun k => ¬ X k) w w' := by
  obtain ⟨Sd, h1, h2, h3⟩ := h
  have hX : ∀ k, (Sd k ∨ w.heap.size ≤ k) → ¬ X k := fun k hk hx => hk.elim (fun hs => (h2 k hs).1 hx) fun hs => by have := h3 k hx; omega
  refine (hc (fun k => Sd k ∨ w.heap.size ≤ k) (diskAtL_mono h1 (fun _ _ h => .inl h) (fun _ _ h => .inl h)) (fun _ h => .inr h) hX).mono fun en w' ⟨e1, hd, ho⟩ => ⟨e1, ?_, ho.mono fun k _ hk => hX k hk⟩
  exact ⟨fun k => (Sd k ∨ w.heap.size ≤ k) ∧ k < w'.heap.size, diskAtL_mono hd (fun k hk hs => ⟨hs, hk⟩) (fun k hk hs => ⟨hs, hk⟩), fun k hk => ⟨hX k hk.1, hk.2⟩, fun k hk => Nat.lt_of_lt_of_le (h3 k hk) ho.size⟩
theorem one_arm (h : One w X p d) (n : Int) (h1 : -9223372036854775808 ≤ n) (h2 : n ≤ 9223372036854775807) :
    Calls Try.prog 27 #[.pointer (some ⟨p, 0, none⟩), .int .i64 n] w fun en w' => en = .returned (.int .i64 (Dk.armE d)) ∧ One w' X p (Dk.arm d n) ∧ Only (fun k => ¬ X k) w w' :=
  one_prog h fun _ hd _ _ => arm_upL hd n h1 h2
theorem one_crash (h : One w X p d) (fa : Option Addr) (F : List Int) (fc : Nat) (hF : ReadsI w fa F) (hfa : ∀ a, fa = some a → F ≠ [] → X a.block) :
    Calls Try.prog 23 #[.pointer (some ⟨p, 0, none⟩), .slice fa F.length fc] w fun en w' => en = .returned (.int .i64 0) ∧ One w' X p (Dk.crash d F) ∧ Only (fun k => ¬ X k) w w' :=
  one_prog h fun _ hd hS hX => crash_upL hd hS (fun _ h => h) fa F fc hF fun a ha hne hs => hX _ hs (hfa a ha hne)
theorem one_new {w0 : World} {n : Nat} (hd : DiskAtL w (fun k => w0.heap.size ≤ k) (fun k => w0.heap.size ≤ k) p (Dk.new n)) (hb : Below w0.heap.size w0 w) : One w (fun k => k < w0.heap.size) p (Dk.new n) :=
  ⟨fun k => w0.heap.size ≤ k ∧ k < w.heap.size, diskAtL_mono hd (fun k hk h => ⟨h, hk⟩) (fun k hk h => ⟨h, hk⟩), fun k h => ⟨by omega, h.2⟩, fun k h => by have := hb.size; omega⟩
theorem one_put (h : One w X p d) (i : Int) (s : ByteArray) (hW : d.W.length ≤ 1000000) :
    Calls Try.prog 31 #[.pointer (some ⟨p, 0, none⟩), .int .i64 i, .string s] w fun en w' => en = .returned (.int .i64 (Dk.writeE d i s)) ∧ One w' X p (Dk.write d i s) ∧ Only (fun k => ¬ X k) w w' :=
  one_prog h fun _ hd hS _ => write_upL hd hS (fun _ h => h) i s hW
theorem one_flush (h : One w X p d) :
    Calls Try.prog 22 #[.pointer (some ⟨p, 0, none⟩)] w fun en w' => en = .returned (.int .i64 (Dk.flushE d)) ∧ One w' X p (Dk.flush d) ∧ Only (fun k => ¬ X k) w w' :=
  one_prog h fun _ hd _ _ => flush_upL hd (fun _ h => h)
theorem one_get (h : One w X p d) (i : Int) : Calls Try.prog 24 #[.pointer (some ⟨p, 0, none⟩), .int .i64 i] w fun en w' => en = .returned (.tuple #[.string (Dk.readS d i), .int .i64 (Dk.readE d i)]) ∧ w' = w := by
  obtain ⟨_, h1, _⟩ := h
  exact read_up (atL_at h1) i
theorem one_len (h : One w X p d) : Calls Try.prog 54 #[.pointer (some ⟨p, 0, none⟩)] w fun en w' => en = .returned (.int .i64 (d.B.length : Int)) ∧ w' = w := by
  obtain ⟨_, h1, _⟩ := h
  exact len_up (atL_at h1)
/-- a step that turns blocks of X alone, and what it makes -/
theorem one_grow {w' : World} (h : One w X p d) (ho : Only X w w') : One w' (fun k => X k ∨ (w.heap.size ≤ k ∧ k < w'.heap.size)) p d := by
  obtain ⟨Sd, h1, h2, h3⟩ := h
  refine ⟨Sd, diskAtL_only h1 ho (fun k hk hf => (h2 k hk).1 hf) (fun k hk hf => (h2 k hk).1 hf), fun k hk => ⟨fun hx => hx.elim (h2 k hk).1 fun e => ?_, Nat.lt_of_lt_of_le (h2 k hk).2 ho.size⟩, fun k hk => hk.elim (fun hx => Nat.lt_of_lt_of_le (h3 k hx) ho.size) fun e => e.2⟩
  have := (h2 k hk).2; omega
end
end Go.Proofs.Ytednmncapfclfaa

/-
  A list of strings in memory that is appended to, and cut at its front: what lies behind its length is its own.
-/
namespace Go.Proofs.Ytednmncapfclfaa
open Go.RowKit
/-- texts as cells -/
def cS (L : List ByteArray) : List Value := L.map fun s => Value.string s
theorem cS_len (L : List ByteArray) : (cS L).length = L.length := List.length_map _
theorem cS_app (L M : List ByteArray) : cS (L ++ M) = cS L ++ cS M := List.map_append
theorem cS_at (L : List ByteArray) (i : Nat) (h : i < L.length) : (cS L)[i]? = some (.string L[i]) := by
  unfold cS; rw [List.getElem?_map, List.getElem?_eq_getElem h]; rfl
theorem cS_one (L : List ByteArray) : ∀ v ∈ cS L, v.oneCell' = true := by
  intro v hv
  obtain ⟨s, _, rfl⟩ := List.mem_map.1 hv
  rfl
theorem addr_add (g o i : Nat) : (⟨g, o, none⟩ : Addr).add i = ⟨g, o + i, none⟩ := by unfold Addr.add; split <;> simp_all
/-- the slice (la, its length, cap) holds the texts L; its block is of S and none of Av -/
def RecAt (w : World) (S Av : Nat → Prop) (la : Option Addr) (cap : Nat) (L : List ByteArray) : Prop :=
  (cap = 0 ∧ L = []) ∨ ∃ g A r, la = some ⟨g, List.length A, none⟩ ∧ RowV w g 9 (A ++ cS L ++ r) ∧ L.length ≤ cap ∧ cap ≤ L.length + r.length ∧ cap ≤ maxLen ∧ ¬ Av g ∧ S g
section
variable {w w' : World} {S S' Av Av' : Nat → Prop} {la : Option Addr} {cap : Nat} {L : List ByteArray}
theorem recAt_nil (w : World) (S Av : Nat → Prop) (la : Option Addr) : RecAt w S Av la 0 [] := .inl ⟨rfl, rfl⟩
theorem recAt_only {F : Nat → Prop} (h : RecAt w S Av la cap L) (ho : Only F w w') (hn : ∀ k, k < w.heap.size → S k → ¬ F k) : RecAt w' S Av la cap L := by
  rcases h with h | ⟨g, A, r, h1, h2, h3, h4, h5, h6, h7⟩
  · exact .inl h
  · exact .inr ⟨g, A, r, h1, rowV_only h2 ho (hn _ (rowV_lt h2) h7), h3, h4, h5, h6, h7⟩
theorem recAt_mono (h : RecAt w S Av la cap L) (hs : ∀ j, j < w.heap.size → S j → S' j) (ha : ∀ j, j < w.heap.size → Av' j → Av j) : RecAt w S' Av' la cap L := by
  rcases h with h | ⟨g, A, r, h1, h2, h3, h4, h5, h6, h7⟩
  · exact .inl h
  · exact .inr ⟨g, A, r, h1, h2, h3, h4, h5, fun h => h6 (ha _ (rowV_lt h2) h), hs _ (rowV_lt h2) h7⟩
theorem recAt_len (h : RecAt w S Av la cap L) : L.length ≤ cap ∧ cap ≤ maxLen := by
  rcases h with ⟨h1, h2⟩ | ⟨g, A, r, h1, h2, h3, h4, h5, _⟩
  · rw [h1, h2]; exact ⟨Nat.le_refl _, Nat.zero_le _⟩
  · exact ⟨h3, h5⟩
/-- it reads as its texts -/
theorem recAt_reads (h : RecAt w S Av la cap L) : ReadsS w la L := by
  intro i hi
  rcases h with ⟨_, h2⟩ | ⟨g, A, r, h1, h2, _⟩
  · subst h2; simp at hi
  · refine ⟨g, A.length, h1, ?_⟩
    rw [rowV_cell h2, List.append_assoc, List.getElem?_append_right (Nat.le_add_right _ _), Nat.add_sub_cancel_left, List.getElem?_append_left (by rw [cS_len]; exact hi)]
    exact cS_at L i hi
theorem recAt_src (h : RecAt w S Av la cap L) (hL : L ≠ []) : ∃ a, la = some a ∧ S a.block ∧ a.block < w.heap.size := by
  rcases h with ⟨_, h2⟩ | ⟨g, A, r, h1, h2, h3, h4, h5, h6, h7⟩
  · exact absurd h2 hL
  · exact ⟨_, h1, h7, rowV_lt h2⟩
/-- a row that the call made -/
theorem recAt_own {B n : Nat} {v : Value} (h : w.ownsRow B 9 1 v n (cS L)) (hn : n = L.length) : ∃ la cap, v = .slice la L.length cap ∧ RecAt w (fun j => B ≤ j) (fun _ => False) la cap L := by
  subst hn
  rcases h.2 with ⟨rfl, h0⟩ | ⟨g, cap, cur, rfl, hb, hh, u1, u2, u3, u4⟩
  · exact ⟨none, 0, by rw [h0], .inl ⟨rfl, List.eq_nil_of_length_eq_zero h0⟩⟩
  · refine ⟨_, _, rfl, .inr ⟨g, [], cur.toList.drop L.length, rfl, ?_, u1, ?_, u2, fun h => h, hb⟩⟩
    · have e : cur.toList = [] ++ cS L ++ cur.toList.drop L.length := by
        have u4' : cur.toList.take L.length = cS L := by simpa using u4
        rw [List.nil_append, ← u4', List.take_append_drop]
      rw [← e]; exact hh
    · have hcl : cur.toList.length = cur.size := Array.length_toList
      rw [List.length_drop, hcl]
      omega
variable {P : Program}
/-- nothing is appended -/
theorem run_append_zero (w : World) (t ty e : TypeId) (i : TypeInfo) (ht : P.underlying t = some (.slice e)) (hi : P.info? e = some i) (la a : Option Addr) (n cap c : Nat) (hn : n ≤ cap) :
    (Builtin.append_ #[t, t] ty #[.slice la n cap, .slice a 0 c]).run P w = .ok (.slice la n cap) w := by
  cases la <;> cases a <;> simp [Builtin.append_, run_underlying ht, sizeOf, typeInfo, hi, Builtin.lenOf, Builtin.firstCells, loadCells, loadCellsFrom, storeCells, hn]
/-- texts more -/
theorem recAt_append (t ty : TypeId) (i : TypeInfo) (ht : P.underlying t = some (.slice 9)) (hi : P.info? 9 = some i) (hz : i.zero = some (.string ByteArray.empty)) (hz1 : i.size = 1) (hz2 : i.bytes = 16)
    (h : RecAt w S Av la cap L) (a : Option Addr) (c : Nat) (l : List ByteArray) (hr : ReadsS w a l) (hL : L.length + l.length ≤ 1000000) (hAv : ∀ j, Av j → j < w.heap.size) :
    ∃ la' cap' w', (Builtin.append_ #[t, t] ty #[.slice la L.length cap, .slice a l.length c]).run P w = .ok (.slice la' (L.length + l.length) cap') w' ∧
      RecAt w' (fun j => S j ∨ w.heap.size ≤ j) Av la' cap' (L ++ l) ∧ Only (fun j => S j ∧ ¬ Av j) w w' := by
  by_cases hl : l = []
  · subst hl
    refine ⟨la, cap, w, ?_, recAt_mono (by rw [List.append_nil]; exact h) (fun _ _ h => .inl h) (fun _ _ h => h), Only.refl _ w⟩
    exact run_append_zero w t ty _ i ht hi la a _ _ c (recAt_len h).1
  have hpos : 0 < l.length := List.length_pos_iff.2 hl
  obtain ⟨b, off, rfl, _⟩ := hr 0 hpos
  have hnews : ∀ j u, (cS l)[j]? = some u → w.cell? ((⟨b, off, none⟩ : Addr).add j) = some u := fun j u hj => by
    have hlt : j < l.length := by have := (List.getElem?_eq_some_iff.1 hj).1; rwa [cS_len] at this
    rw [cS_at l j hlt] at hj
    obtain ⟨b', off', e, hc⟩ := hr j hlt
    cases e
    rw [addr_add, hc]; exact hj
  have hN : (cS l).length = l.length * 1 := by rw [cS_len, Nat.mul_one]
  have fin : ∀ (v' : Value) (w' : World), w'.ownsRow w.heap.size 9 1 v' (L.length + l.length) (cS L ++ cS l) → w.grownBy w' none →
      ∃ la' cap', v' = .slice la' (L.length + l.length) cap' ∧ RecAt w' (fun j => S j ∨ w.heap.size ≤ j) Av la' cap' (L ++ l) ∧ Only (fun j => S j ∧ ¬ Av j) w w' := by
    intro v' w' ho hg
    rw [← cS_app] at ho
    obtain ⟨la', cap', e, hR⟩ := recAt_own ho (by rw [List.length_append])
    rw [List.length_append] at e
    refine ⟨la', cap', e, ?_, (Only.refl _ w).grown hg fun _ _ e => by cases e⟩
    rcases hR with hR | ⟨g, A, r, h1, h2, h3, h4, h5, h6, h7⟩
    · exact .inl hR
    · exact .inr ⟨g, A, r, h1, h2, h3, h4, h5, fun h => by have := hAv _ h; omega, .inr h7⟩
  have hbig : ∀ (b0 : Addr) (olds : List Value), olds.length = L.length → olds = cS L → (∀ j u, olds[j]? = some u → w.cell? (b0.add j) = some u) → cap < L.length + l.length →
      ∃ la' cap' w', (Builtin.append_ #[t, t] ty #[.slice (some b0) L.length cap, .slice (some ⟨b, off, none⟩) l.length c]).run P w = .ok (.slice la' (L.length + l.length) cap') w' ∧ RecAt w' (fun j => S j ∨ w.heap.size ≤ j) Av la' cap' (L ++ l) ∧ Only (fun j => S j ∧ ¬ Av j) w w' := by
    intro b0 olds ho1 ho2 ho3 hc
    obtain ⟨v', w', hrun, ho, hgr⟩ := run_append_arg_grows (P := P) w t ty 9 i (.string ByteArray.empty) 1 16 ht hi hz hz1 hz2 rfl (by omega) b0 L.length cap olds (by rw [ho1, Nat.mul_one]) ho3
      ⟨b, off, none⟩ l.length c (cS l) hN hnews hc (by unfold maxLen; omega) (by omega)
    rw [ho2] at ho
    obtain ⟨la', cap', rfl, rest⟩ := fin v' w' ho hgr
    exact ⟨la', cap', w', hrun, rest⟩
  rcases h with ⟨rfl, rfl⟩ | ⟨g, A, r, rfl, hg, hcap, hcr, hmax, hav, hS⟩
  · cases la with
    | none =>
      obtain ⟨v', w', hrun, ho, hgr, _⟩ := run_append_own_wide (P := P) w w.heap.size t ty 9 i (.string ByteArray.empty) 1 16 ht hi hz hz1 hz2 rfl (by omega) _ 0 [] (World.ownsRow_nil w w.heap.size 9 1)
        ⟨b, off, none⟩ l.length c (cS l) hN hnews (cS_one l) (by unfold maxLen; omega) (by simp at hL; omega) (Nat.le_refl _)
      obtain ⟨la', cap', rfl, rest⟩ := fin v' w' (by simpa [cS] using ho) (by simpa [Value.ownBlock] using hgr)
      exact ⟨la', cap', w', hrun, rest⟩
    | some b0 => exact hbig b0 [] rfl rfl (by intro j u hj; simp at hj) (by simpa using hpos)
  · by_cases hroom : L.length + l.length ≤ cap
    · have hth := rowV_there hg (A.length + L.length) l.length (by simp only [List.length_append, cS_len]; omega)
      have hrun := run_append_room_cells (P := P) w t ty 9 i ht hi g A.length L.length cap ⟨b, off, none⟩ l.length c (cS l) (by rw [hz1]; exact hN) hnews (cS_one l) hroom
        (fun j hj => by rw [hz1, Nat.mul_one]; exact (hth j (by rw [cS_len] at hj; exact hj)).1) (fun j hj => by rw [hz1, Nat.mul_one]; exact (hth j (by rw [cS_len] at hj; exact hj)).2)
      rw [hz1, Nat.mul_one] at hrun
      have hst := rowV_setCells (cS l) (A.length + L.length) hg (by simp only [List.length_append, cS_len]; omega)
      refine ⟨_, _, _, hrun, .inr ⟨g, A, r.drop l.length, rfl, ?_, by rw [List.length_append]; exact hroom, by rw [List.length_append, List.length_drop]; omega, hmax, hav, .inl hS⟩, (Only.refl _ w).setCells (fun _ => ⟨hS, hav⟩) _ _⟩
      have e : (A ++ cS L ++ r).take (A.length + L.length) ++ cS l ++ (A ++ cS L ++ r).drop (A.length + L.length + (cS l).length) = A ++ cS (L ++ l) ++ r.drop l.length := by
        have hk : (A ++ cS L).length = A.length + L.length := by rw [List.length_append, cS_len]
        rw [← hk, List.take_left', cS_len, ← List.drop_drop, List.drop_left', cS_app, List.append_assoc A]
        · rfl
        · rfl
      rw [← e]; exact hst
    · refine hbig ⟨g, A.length, none⟩ (cS L) (cS_len L) rfl ?_ (by omega)
      intro j u hj
      have hlt : j < (cS L).length := (List.getElem?_eq_some_iff.1 hj).1
      rw [addr_add, rowV_cell hg, List.append_assoc, List.getElem?_append_right (Nat.le_add_right _ _), Nat.add_sub_cancel_left, List.getElem?_append_left hlt]; exact hj
theorem recAt_cut (h : RecAt w S Av la cap L) (k : Nat) (hk : k ≤ L.length) (m : Nat) (hm : L.length ≤ m) (hmc : m ≤ cap) : RecAt w S Av (if m = k then la else la.map (·.add (k * 1))) (m - k) (L.drop k) := by
  rw [Nat.mul_one]
  rcases h with ⟨h1, h2⟩ | ⟨g, A, r, rfl, h2, h3, h4, h5, h6, h7⟩
  · subst h1; subst h2
    exact .inl ⟨by omega, by simp⟩
  · by_cases e : m = k
    · rw [if_pos e]
      exact .inl ⟨by omega, by rw [List.drop_of_length_le (by omega)]⟩
    · rw [if_neg e]
      refine .inr ⟨g, A ++ (cS L).take k, r, ?_, ?_, ?_, ?_, by omega, h6, h7⟩
      · rw [Option.map_some, addr_add, List.length_append, List.length_take, cS_len, Nat.min_eq_left hk]
      · have e2 : A ++ (cS L).take k ++ cS (L.drop k) ++ r = A ++ cS L ++ r := by
          have : (cS L).take k ++ cS (L.drop k) = cS L := by unfold cS; rw [List.map_drop, List.take_append_drop]
          rw [List.append_assoc A, this]
        rw [e2]; exact h2
      · rw [List.length_drop]; omega
      · rw [List.length_drop]; omega
/-- the first k are cleared, and cut off -/
theorem recAt_trim (t ty : TypeId) (ht : P.underlying t = some (.slice 9)) (hv : ∀ w, (zeroValue 9).run P w = .ok (.string ByteArray.empty) w) (h : RecAt w S Av la cap L) (k : Nat) (hk : k ≤ L.length) (c : Nat) :
    ∃ w', (Builtin.clear_ #[t] ty #[.slice la k c]).run P w = .ok (.tuple #[]) w' ∧ RecAt w' S Av (if L.length = k then la else la.map (·.add (k * 1))) (L.length - k) (L.drop k) ∧ Only (fun j => S j ∧ ¬ Av j) w w' := by
  by_cases h0 : k = 0
  · subst h0
    refine ⟨w, ?_, recAt_cut h 0 (Nat.zero_le _) _ (Nat.le_refl _) (recAt_len h).1, Only.refl _ w⟩
    cases la <;> simp [Builtin.clear_, run_underlying ht]
  rcases h with ⟨h1, h2⟩ | ⟨g, A, r, rfl, h2, h3, h4, h5, h6, h7⟩
  · subst h2; simp at hk; omega
  · have hth := rowV_there h2 A.length k (by simp only [List.length_append, cS_len]; omega)
    have hrun := Lib.run_clear_slice (P := P) w t 9 ty (.string ByteArray.empty) ht hv rfl rfl g A.length k c (by omega) (fun j hj => (hth j hj).1) (fun j hj => (hth j hj).2)
    have hst := rowV_setCells (List.replicate k (Value.string ByteArray.empty)) A.length h2 (by simp only [List.length_append, List.length_replicate, cS_len]; omega)
    have e : (A ++ cS L ++ r).take A.length ++ List.replicate k (Value.string ByteArray.empty) ++ (A ++ cS L ++ r).drop (A.length + (List.replicate k (Value.string ByteArray.empty)).length) = A ++ cS (List.replicate k ByteArray.empty ++ L.drop k) ++ r := by
      rw [List.append_assoc A (cS L) r, List.take_left', List.length_replicate, ← List.drop_drop, List.drop_left', cS_app, List.drop_append_of_le_length (by rw [cS_len]; exact hk)]
      · have e1 : cS (List.replicate k ByteArray.empty) = List.replicate k (Value.string ByteArray.empty) := by unfold cS; rw [List.map_replicate]
        have e2 : cS (L.drop k) = (cS L).drop k := by unfold cS; rw [List.map_drop]
        rw [e1, e2]; simp only [List.append_assoc]
      · rfl
      · rfl
    rw [e] at hst
    have hlen : (List.replicate k ByteArray.empty ++ L.drop k).length = L.length := by rw [List.length_append, List.length_replicate, List.length_drop]; omega
    have hR : RecAt (w.setCells g A.length (List.replicate k (Value.string ByteArray.empty))) S Av (some ⟨g, A.length, none⟩) cap (List.replicate k ByteArray.empty ++ L.drop k) :=
      .inr ⟨g, A, r, rfl, hst, by rw [hlen]; exact h3, by rw [hlen]; exact h4, h5, h6, h7⟩
    have hC := recAt_cut hR k (by rw [hlen]; exact hk) L.length (by rw [hlen]; exact Nat.le_refl _) h3
    rw [List.drop_left' (by rw [List.length_replicate])] at hC
    exact ⟨_, hrun, hC, (Only.refl _ w).setCells (fun _ => ⟨h7, h6⟩) _ _⟩
end
section
variable {P : Program} {ops : Array Oper} {rest : List Oper} {o : Oper} {a : Act} {w : World} {Q : Exit → Act → World → Prop} {S Av : Nat → Prop} {la : Option Addr} {cap : Nat} {L : List ByteArray}
theorem wpList_append_rec (hgd : o.guard = none) (s x : Operand) (t : TypeId)
    (hop : o.op = Op.call { callee := Callee.builtin Builtin.append, args := #[s, x], argTypes := #[t, t] }) (i : TypeInfo) (ht : P.underlying t = some (.slice 9)) (hi : P.info? 9 = some i) (hz : i.zero = some (.string ByteArray.empty)) (hz1 : i.size = 1) (hz2 : i.bytes = 16)
    (hs : a.eval s = .slice la L.length cap) (hR : RecAt w S Av la cap L) (ad : Option Addr) (c : Nat) (l : List ByteArray) (hx : a.eval x = .slice ad l.length c) (hr : ReadsS w ad l) (hL : L.length + l.length ≤ 1000000) (hAv : ∀ j, Av j → j < w.heap.size)
    (h : ∀ la' cap' w', RecAt w' (fun j => S j ∨ w.heap.size ≤ j) Av la' cap' (L ++ l) → Only (fun j => S j ∧ ¬ Av j) w w' → wpList P ops Q rest (a.put o.dst (.slice la' (L.length + l.length) cap')) w') : wpList P ops Q (o :: rest) a w := by
  refine wpList_plain hgd fun K hK' => ?_
  obtain ⟨la', cap', w', hrun, r1, r2⟩ := recAt_append (P := P) t o.type i ht hi hz hz1 hz2 hR ad c l hr hL hAv
  unfold Oper.wp
  simp [execOp, hop, resolve, invoke, builtin, hs, hx, hrun, Result.andThen]
  exact hK' _ _ (h la' cap' w' r1 r2)
theorem wpList_clear_rec (hgd : o.guard = none) (s : Operand) (t : TypeId) (hop : o.op = Op.call { callee := Callee.builtin Builtin.clear, args := #[s], argTypes := #[t] }) (ht : P.underlying t = some (.slice 9)) (hv : ∀ w, (zeroValue 9).run P w = .ok (.string ByteArray.empty) w)
    (hR : RecAt w S Av la cap L) (k : Nat) (hk : k ≤ L.length) (c : Nat) (hs : a.eval s = .slice la k c)
    (h : ∀ w', RecAt w' S Av (if L.length = k then la else la.map (·.add (k * 1))) (L.length - k) (L.drop k) → Only (fun j => S j ∧ ¬ Av j) w w' → wpList P ops Q rest (a.put o.dst (.tuple #[])) w') : wpList P ops Q (o :: rest) a w := by
  refine wpList_plain hgd fun K hK' => ?_
  obtain ⟨w', hrun, r1, r2⟩ := recAt_trim (P := P) t o.type ht hv hR k hk c
  unfold Oper.wp
  simp [execOp, hop, resolve, invoke, builtin, hs, hrun, Result.andThen]
  exact hK' _ _ (h w' r1 r2)
end
end Go.Proofs.Ytednmncapfclfaa
