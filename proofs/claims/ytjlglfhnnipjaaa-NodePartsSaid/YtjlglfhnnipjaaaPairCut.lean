/-
  A list of pairs that is cut: its front, its rest; copied (slices.Clone).
-/
import Derived.Test.YtjlglfhnnipjaaaPairOwn
import Derived.Lib.SliceRun
import Derived.Maps.AppendAt
import Derived.Deep.DeepAppendWide
import Derived.ArgAppend
namespace Go.Proofs.Ytjlglfhnnipjaaa
open Go.RowKit
theorem wp_run_app {P : Program} {o : Oper} {a : Act} {w : World} {K : Act → World → Prop} {Q : Exit → Act → World → Prop} (s x : Operand) (t : TypeId)
    (ho : o.op = .call { callee := .builtin .append, args := #[s, x], argTypes := #[t, t] }) (v1 v2 : Value) (hs : a.eval s = v1) (hx : a.eval x = v2) (v' : Value) (w' : World) (hr : (Builtin.append_ #[t, t] o.type #[v1, v2]).run P w = .ok v' w')
    (h : K (a.put o.dst v') w') : Oper.wp P o a w K Q := by
  unfold Oper.wp execOp
  simp only [ho, resolve, invoke, builtin, Sem.run_bind, Sem.run_pure, Result.andThen_ok, List.map_toArray, List.map_cons, List.map_nil, hs, hx, hr]
  exact h
theorem wpList_run_app {P : Program} {ops : Array Oper} {rest : List Oper} {o : Oper} {a : Act} {w : World} {Q : Exit → Act → World → Prop} (hgd : o.guard = none) (s x : Operand) (t : TypeId)
    (ho : o.op = .call { callee := .builtin .append, args := #[s, x], argTypes := #[t, t] }) (v1 v2 : Value) (hs : a.eval s = v1) (hx : a.eval x = v2) (v' : Value) (w' : World) (hr : (Builtin.append_ #[t, t] o.type #[v1, v2]).run P w = .ok v' w')
    (h : wpList P ops Q rest (a.put o.dst v') w') : wpList P ops Q (o :: rest) a w :=
  wpList_plain hgd fun _ hK => wp_run_app s x t ho v1 v2 hs hx v' w' hr (hK _ _ h)
theorem pair_size : (Try.prog.info? 33).map (·.size) = some 2 := by kernel_rfl
theorem elem_pair : Try.prog.elem 22 = 33 := by kernel_rfl
theorem slice_front2 (la : Option Addr) (n cap k : Nat) (hk : k ≤ cap) (w : World) : (Instr.slice 22 (.slice la n cap) none (some (.int .i64 (k : Int))) none).run Try.prog w = .ok (.slice la k cap) w := by
  obtain ⟨i0, hi0, hz⟩ := Option.map_eq_some_iff.1 pair_size
  rw [run_slice_h (P := Try.prog) w 22 la n cap (by rw [elem_pair]; exact Try.underlying22) .i64 k (by omega) (by omega)]
  cases la <;> simp [elem_pair, sizeOf, typeInfo, hi0, Result.andThen, sliced, Addr.add]
theorem slice_from2 (la : Option Addr) (n cap k : Nat) (hk : k ≤ n) (w : World) : (Instr.slice 22 (.slice la n cap) (some (.int .i64 (k : Int))) none none).run Try.prog w = .ok (.slice (if cap = k then la else la.map (·.add (k * 2))) (n - k) (cap - k)) w := by
  obtain ⟨i0, hi0, hz⟩ := Option.map_eq_some_iff.1 pair_size
  rw [run_slice_l (P := Try.prog) w 22 la n cap (by rw [elem_pair]; exact Try.underlying22) .i64 k (by omega) (by omega)]
  simp [elem_pair, sizeOf, typeInfo, hi0, Result.andThen, sliced, hz]
theorem add_mid2 (b off k : Nat) : (⟨b, off, none⟩ : Addr).add k = ⟨b, off + k, none⟩ := by unfold Addr.add; split <;> simp_all
theorem readsP_take {w : World} {a : Option Addr} {L : List (ByteArray × ByteArray)} (h : ReadsP w a L) (k : Nat) : ReadsP w a (L.take k) := by
  intro i hi
  rw [List.length_take] at hi
  obtain ⟨b, off, h1, h2, h3⟩ := h i (by omega)
  exact ⟨b, off, h1, by rw [List.getElem_take]; exact h2, by rw [List.getElem_take]; exact h3⟩
theorem readsP_from {w : World} {a : Option Addr} {L : List (ByteArray × ByteArray)} {cap k : Nat} (h : ReadsP w a L) (hk : k ≤ L.length) (hc : L.length ≤ cap) : ReadsP w (if cap = k then a else a.map (·.add (k * 2))) (L.drop k) := by
  intro i hi
  rw [List.length_drop] at hi
  obtain ⟨b, off, rfl, h2, h3⟩ := h (k + i) (by omega)
  rw [if_neg (by omega)]
  refine ⟨b, off + k * 2, by rw [Option.map_some, add_mid2], ?_, ?_⟩
  · rw [List.getElem_drop, show off + k * 2 + i * 2 = off + (k + i) * 2 by omega]; exact h2
  · rw [List.getElem_drop, show off + k * 2 + i * 2 + 1 = off + (k + i) * 2 + 1 by omega]; exact h3
theorem readsP_cells {w : World} {b off : Nat} {L : List (ByteArray × ByteArray)} (h : ReadsP w (some ⟨b, off, none⟩) L) : ∀ j u, (pairsC L)[j]? = some u → w.cell? ((⟨b, off, none⟩ : Addr).add j) = some u := by
  intro j u hj
  have hlt : j < L.length * 2 := by rw [← pairsC_len]; exact (List.getElem?_eq_some_iff.1 hj).1
  have hi : j / 2 < L.length := by omega
  obtain ⟨p1, p2⟩ := pairsC_at L (j / 2) hi
  obtain ⟨b', off', e, h2, h3⟩ := h (j / 2) hi
  cases e
  rw [add_mid2]
  rcases Nat.mod_two_eq_zero_or_one j with hm | hm
  · have e : j / 2 * 2 = j := by omega
    rw [e] at p1 h2
    rw [h2, ← p1]; exact hj
  · have e : j / 2 * 2 + 1 = j := by omega
    rw [e] at p2
    rw [show off + j / 2 * 2 + 1 = off + j by omega] at h3
    rw [h3, ← p2]; exact hj
/-- pairs more, onto a list that the call owns -/
theorem run_append_pairs {P : Program} (t ty : TypeId) (i : TypeInfo) (z : Value) (ht : P.underlying t = some (.slice 33)) (hi : P.info? 33 = some i) (hz : i.zero = some z) (hz1 : i.size = 2) (hz2 : i.bytes = 32) (hzc : z.cells.size = 2)
    {w : World} {B n : Nat} {v : Value} {L M : List (ByteArray × ByteArray)} (h : w.ownsRow B 33 2 v n (pairsC L)) (hn : n = L.length) (a : Option Addr) (c : Nat) (hr : ReadsP w a M) (hL : L.length + M.length ≤ 1000000) (hB : B ≤ w.heap.size) :
    ∃ v' w', (Builtin.append_ #[t, t] ty #[v, .slice a M.length c]).run P w = .ok v' w' ∧ w'.ownsRow B 33 2 v' (n + M.length) (pairsC (L ++ M)) ∧ w.grownBy w' v.ownBlock ∧ ∀ k, v'.ownBlock = some k → v.ownBlock = some k ∨ w.heap.size ≤ k := by
  subst hn
  by_cases hM : M = []
  · subst hM
    refine ⟨v, w, ?_, by rw [List.append_nil]; exact h, ⟨rfl, rfl, rfl, Nat.le_refl _, fun _ _ _ => rfl⟩, fun k hk => .inl hk⟩
    have hv : ∃ la cap, v = .slice la L.length cap ∧ L.length ≤ cap := by
      rcases h.2 with ⟨rfl, h0⟩ | ⟨g, cap, cur, rfl, hb, hh, u1, u2, u3, u4⟩
      · exact ⟨none, 0, by rw [h0], by omega⟩
      · exact ⟨_, _, rfl, u1⟩
    obtain ⟨la, cap, rfl, hc⟩ := hv
    cases la <;> cases a <;> simp [Builtin.append_, run_underlying ht, sizeOf, typeInfo, hi, Builtin.lenOf, Builtin.firstCells, loadCells, loadCellsFrom, storeCells, hc]
  have hpos : 0 < M.length := List.length_pos_iff.2 hM
  obtain ⟨b, off, rfl, _⟩ := hr 0 hpos
  obtain ⟨g, cap, w', hrun, ho, hgr, hat, _⟩ := run_append_lies (P := P) w t ty B 33 i z 2 32 ht hi hz hz1 hz2 hzc (by omega) v L.length (pairsC L) h ⟨b, off, none⟩ M.length c (pairsC M) (pairsC_len M) (readsP_cells hr) pairsC_cell hpos (by unfold maxLen; omega) (by omega) hB _ rfl
  refine ⟨_, w', hrun, by rw [pairsC_app]; exact ho, hgr, fun k hk => ?_⟩
  rcases hat with e | e
  · left; rw [e]; exact hk
  · right
    have : k = g := by simpa [Value.ownBlock] using hk.symm
    omega
theorem eql_pairs (a : Option Addr) (n c n' c' : Nat) (w : World) : (binOp .eql 22 (.slice a n c) (.slice none n' c')).run Try.prog w = .ok (.bool a.isNone) w := Lib.run_eql_slice_nil w 22 33 a n c n' c' Try.underlying22
/-- a copy: its row is its own -/
def ClonedP (L : List (ByteArray × ByteArray)) (w : World) (e : Ending) (w' : World) : Prop := ∃ g cap, e = .returned (.slice (some ⟨g, 0, none⟩) L.length cap) ∧ w'.ownsRow w.heap.size 33 2 (.slice (some ⟨g, 0, none⟩) L.length cap) L.length (pairsC L) ∧ Below w.heap.size w w'
set_option maxRecDepth 100000 in
set_option maxHeartbeats 800000 in
theorem clone9_any (a : Option Addr) (c : Nat) (L : List (ByteArray × ByteArray)) (w : World) (hL : L.length ≤ 100000) (hr : ReadsP w a L) (h0 : 0 < L.length) : Calls Try.prog 42 #[.slice a L.length c] w (ClonedP L w) := by
  obtain ⟨b, off, rfl, _⟩ := hr 0 h0
  obtain ⟨i0, hi, hz0, hz1, hz2⟩ := info_parts pair_parts
  have hbA : Below w.heap.size w (w.alloc (.cells #[] 33)) := (Below.refl _ _).alloc (Nat.le_refl _) _
  have hrA := readsP_below hr hbA
  obtain ⟨v', w', hrun, ho, hgr⟩ := run_append_arg_grows (P := Try.prog) (w.alloc (.cells #[] 33)) 22 22 33 i0 _ 2 32 Try.underlying22 hi hz0 hz1 hz2 rfl (by omega) ⟨w.heap.size, 0, none⟩ 0 0 [] (by simp) (by intro j u hj; simp at hj)
    ⟨b, off, none⟩ L.length c (pairsC L) (pairsC_len L) (readsP_cells hrA) (by omega) (by unfold maxLen; omega) (by omega)
  have hb : Below w.heap.size w w' := hbA.grown hgr (by simp) (by intro k e; cases e)
  have hpost : ∃ g c', v' = .slice (some ⟨g, 0, none⟩) L.length c' ∧ w'.ownsRow w.heap.size 33 2 (.slice (some ⟨g, 0, none⟩) L.length c') L.length (pairsC L) := by
    have ho2 := ho
    rcases ho.2 with ⟨_, h1⟩ | ⟨g', cap', cur, rfl, hbg, hh, u1, u2, u3, u4⟩
    · omega
    · refine ⟨g', cap', by rw [Nat.zero_add], ?_⟩
      rw [Nat.zero_add] at u1 u4 ho2
      rw [List.nil_append] at u4 ho2
      exact ⟨ho2.1, .inr ⟨g', cap', cur, rfl, by simp at hbg; omega, hh, u1, u2, u3, u4⟩⟩
  obtain ⟨g, c', rfl, hO⟩ := hpost
  have HP := Lib.hid (And.intro hO (And.intro hb hrun))
  have hq := fun w0 => eql_pairs (some ⟨b, off, none⟩) L.length c 0 0 w0
  clear hi hz0 hz1 hz2 hr hrA hbA hrun ho hgr hb hO
  go_enter Try.func42, Try.ntmps42
  go_wp2_with (at_builtin; go_loud (refine wpList_run_app rfl (.tmp 5) (.tmp 6) 22 rfl _ _ rfl rfl _ _ HP.out.2.2 ?_))
  go_ret
  exact ⟨_, _, rfl, HP.out.1, HP.out.2.1⟩
end Go.Proofs.Ytjlglfhnnipjaaa
