/-
  Layer 4: a loose write as a value, put behind the loose list; a text copied into a block.
-/
import Derived.Test.YtjefmmbkkdaeiaaDskOps
import Derived.Great.FillDense
import Derived.Great.BuildSlice
import Derived.Deep.AppendSrc
import Derived.Deep.DeepAppendWide
import Derived.ArgAppend
namespace Go.Proofs.Ytjefmmbkkdaeiaa
open Go.RowKit

theorem info_write : (Try.prog.info? 69).map (fun i => (i.zero, i.size, i.bytes)) = some (some (.agg (wv (0, Dk.zeros)).toArray), 513, 520) := by kernel_rfl
theorem wv_one (x : Nat × ByteArray) : ∀ v ∈ wv x, v.oneCell' = true := by
  intro v hv
  rcases List.mem_cons.1 hv with rfl | hv
  · rfl
  · exact bv_one _ v hv
theorem fold_arr (off : Nat) (X cs : Array Value) : X.zipIdx.foldl (fun cs (x : Value × Nat) => cs.setIfInBounds (off + x.2) x.1) cs = (X.toList.zipIdx 0).foldl (fun cs (x : Value × Nat) => cs.setIfInBounds (off + x.2) x.1) cs := by
  rw [← Array.foldl_toList, Array.toList_zipIdx]
theorem fill_step (places : Nat → Option (Nat × Nat)) (z : Array Value) (i : Nat) (v : Value) (rest : List (Nat × Value)) (off : Nat) (hp : places i = some (off, v.cells.size)) (hf : off + v.cells.size ≤ z.size) :
    Instr.fill places z ((i, v) :: rest) = Instr.fill places ((v.cells.toList.zipIdx 0).foldl (fun cs (x : Value × Nat) => cs.setIfInBounds (off + x.2) x.1) z) rest := by
  rw [← fold_arr]
  simp only [Instr.fill, hp]
  rw [if_neg (by simp; omega)]
theorem fill_two (z : Array Value) (hz : z.size = 513) (v : Value) (hv : v.cells = #[v]) (X : Array Value) (hX : X.size = 512) (places : Nat → Option (Nat × Nat)) (h0 : places 0 = some (0, 1)) (h1 : places 1 = some (1, 512)) :
    Instr.fill places z [(0, v), (1, .agg X)] = some (v :: X.toList).toArray := by
  have hc : (Value.agg X).cells = X := rfl
  rw [fill_step places z 0 v _ 0 (by rw [h0, hv]; rfl) (by rw [hv, hz]; simp), hv]
  obtain ⟨s1, k1⟩ := Great.foldl_set 0 [v] 0 z
  have e1 : (#[v] : Array Value).toList = [v] := rfl
  rw [e1]
  generalize ([v].zipIdx 0).foldl (fun cs (x : Value × Nat) => cs.setIfInBounds (0 + x.2) x.1) z = z1 at *
  rw [fill_step places z1 1 (.agg X) _ 1 (by rw [h1, hc, hX]) (by rw [hc, s1, hz, hX]; omega), hc]
  obtain ⟨s2, k2⟩ := Great.foldl_set 1 X.toList 0 z1
  show some _ = some _
  congr 1
  apply Array.ext_getElem?
  intro k
  have hlX : X.toList.length = 512 := by rw [Array.length_toList, hX]
  have eR : (v :: X.toList).toArray[k]? = (v :: X.toList)[k]? := List.getElem?_toArray ..
  rw [k2 k, k1 k, hlX, s1, hz, eR]
  by_cases hk0 : k = 0
  · subst hk0; simp
  · by_cases hk : k < 513
    · rw [if_pos (by omega)]
      obtain ⟨j, rfl⟩ : ∃ j, k = j + 1 := ⟨k - 1, by omega⟩
      rw [List.getElem?_cons_succ]; congr 1
    · rw [if_neg (by omega), if_neg (by simp; omega), Array.getElem?_eq_none (by omega), List.getElem?_eq_none (by rw [List.length_cons, hlX]; omega)]
theorem built_write (i : Nat) (b : ByteArray) (hb : b.size = 512) : Try.prog.built 69 [(0, .int .i64 (i : Int)), (1, .agg (bv b).toArray)] = some (wv (i, b)).toArray := by
  obtain ⟨iw, hi, hi2⟩ := Option.map_eq_some_iff.1 info_write
  simp only [Prod.mk.injEq] at hi2
  have p0 : (Try.prog.info? 3).map (·.size) = some 1 := by kernel_rfl
  have p1 : (Try.prog.info? 67).map (·.size) = some 512 := by kernel_rfl
  obtain ⟨i0, hi0, hs0⟩ := Option.map_eq_some_iff.1 p0
  obtain ⟨i1, hi1, hs1⟩ := Option.map_eq_some_iff.1 p1
  unfold Program.built
  rw [hi, Try.underlying69]
  simp only [hi2.1, List.mapM_cons, List.mapM_nil, hi0, hi1, hs0, hs1, Option.map_some, Option.bind_eq_bind, Option.bind_some, Option.pure_def, Value.cells]
  rw [fill_two _ (by rw [List.size_toArray, wv_len _ Dk.zeros_size]) _ rfl _ (by rw [List.size_toArray, bv_len, hb]) _ rfl rfl]
  rfl
theorem run_build_write (w : World) (i : Nat) (b : ByteArray) (hb : b.size = 512) : (Instr.build 69 #[(0, .int .i64 (i : Int)), (1, .agg (bv b).toArray)]).run Try.prog w = .ok (.agg (wv (i, b)).toArray) w :=
  run_build w _ _ _ (built_write i b hb)
theorem run_slice_write (w : World) (X : Array Value) (hX : X.size = 513) : (Instr.buildSlice 53 1 #[(0, .agg X)]).run Try.prog w = .ok (.slice (some ⟨w.heap.size, 0, none⟩) 1 1) (w.alloc (.cells X 69)) := by
  obtain ⟨iw, hi, hi2⟩ := Option.map_eq_some_iff.1 info_write
  simp only [Prod.mk.injEq] at hi2
  refine run_buildSlice w _ _ 1 _ X iw _ Try.underlying53 hi hi2.1 (by rw [hi2.2.1]; omega) (by rw [hi2.2.1]; omega) ?_
  have e := Great.fill_whole (s := iw.size) (by rw [hi2.2.1]; omega) [.agg X] ((Array.range (1 * iw.size)).map ((Value.agg (wv (0, Dk.zeros)).toArray).cells[· % (Value.agg (wv (0, Dk.zeros)).toArray).cells.size]!)) (by intro v hv; rw [List.mem_singleton] at hv; subst hv; rw [hi2.2.1]; exact hX) (by simp)
  simp only [List.zipIdx_cons, List.zipIdx_nil, List.map_cons, List.map_nil, List.flatMap_cons, List.flatMap_nil, List.append_nil, Value.cells, Array.toArray_toList] at e
  exact e
/-- a text copied into a block -/
theorem wpList_copy_text {P : Program} {w : World} {ops : Array Oper} {rest : List Oper} {o : Oper} {a : Act} {Q : Exit → Act → World → Prop} (hgd : o.guard = none) (d s : Operand) (dT sT : TypeId)
    (ho : o.op = .call { callee := .builtin .copy, args := #[d, s], argTypes := #[dT, sT] }) (elem : TypeId) (hu : P.underlying dT = some (.slice elem)) (hsz : (P.info? elem).map (·.size) = some 1)
    (g off dLen dCap : Nat) (hd : a.eval d = .slice (some ⟨g, off, none⟩) dLen dCap) (str : ByteArray) (hs : a.eval s = .string str) (hn : str.size = dLen) (ht : w.there g off dLen)
    (h : wpList P ops Q rest (a.put o.dst (goInt dLen)) (w.setCells g off (bv str))) : wpList P ops Q (o :: rest) a w := by
  refine wpList_plain hgd fun K hK => ?_
  have hst := run_storeCells_cells (P := P) g off (bv str) 0 w (fun j hj => by rw [bv_len, hn] at hj; simpa using (ht j hj).1) (fun j hj => by rw [bv_len, hn] at hj; simpa using (ht j hj).2) (bv_one str)
  obtain ⟨i, hi, hi2⟩ := Option.map_eq_some_iff.1 hsz
  have hf := firstCells_string (P := P) str w
  have hrun : (Builtin.copy_ #[dT, sT] o.type #[.slice (some ⟨g, off, none⟩) dLen dCap, .string str]).run P w = .ok (goInt dLen) (w.setCells g off (bv str)) := by
    rw [Nat.add_zero] at hst
    have e : (byteCells str) = bv str := rfl
    rw [e] at hf
    subst hn
    simp [Builtin.copy_, run_underlying hu, Builtin.lenOf, sizeOf, typeInfo, hi, hi2, hf, hst]
  unfold Oper.wp
  simp [execOp, ho, resolve, invoke, builtin, hd, hs, hrun, Result.andThen]
  exact hK _ _ h

theorem room_left (k n r c : Nat) (h : n * k + r = c * k) (h2 : (n + 1) * k ≤ c * k) : (n + 1) * k + (r - k) = c * k := by
  rw [Nat.add_mul, Nat.one_mul] at h2 ⊢
  generalize n * k = a at *
  generalize c * k = b at *
  omega
/-- one loose write more -/
theorem append_loose {w : World} {S : Nat → Prop} {p gn gk cap : Nat} {la : Option Addr} {W : List (Nat × ByteArray)} (h : LooseAt w S p gn gk la cap W) (hz : ∀ x ∈ W, x.2.size = 512) (x : Nat × ByteArray) (hx : x.2.size = 512)
    (N : Nat) (hN : RowV w N 69 (wv x)) (hW : W.length ≤ 1000000) (ty : TypeId) (hp : p < w.heap.size) (hgn : gn < w.heap.size) (hgk : gk < w.heap.size) :
    ∃ g' cap' r' w', (Builtin.append_ #[53, 53] ty #[.slice la W.length cap, .slice (some ⟨N, 0, none⟩) 1 1]).run Try.prog w = .ok (.slice (some ⟨g', 0, none⟩) (W.length + 1) cap') w' ∧
      RowV w' g' 69 ((W ++ [x]).flatMap wv ++ r') ∧ W.length + 1 ≤ cap' ∧ cap' ≤ maxLen ∧ g' ≠ p ∧ g' ≠ gn ∧ g' ≠ gk ∧ (S g' ∨ w.heap.size ≤ g') ∧ (W.length + 1) * 513 + r'.length = cap' * 513 ∧ Only (fun k => S k ∧ k ≠ p ∧ k ≠ gn ∧ k ≠ gk) w w' := by
  obtain ⟨iw, hi, hi2⟩ := Option.map_eq_some_iff.1 info_write
  simp only [Prod.mk.injEq] at hi2
  have hl : ∀ y ∈ W, (wv y).length = 513 := fun y hy => wv_len y (hz y hy)
  have hlen := flat_len wv 513 W hl
  have hxl := wv_len x hx
  have hnews : ∀ j u, (wv x)[j]? = some u → w.cell? ((⟨N, 0, none⟩ : Addr).add j) = some u := fun j u hj => by
    rw [Addr.add_mid, Nat.zero_add, rowV_cell hN]; exact hj
  have hsnoc : (W ++ [x]).flatMap wv = W.flatMap wv ++ wv x := by rw [List.flatMap_append]; simp
  have hcs : (Value.agg (wv (0, Dk.zeros)).toArray).cells.size = 513 := by show (wv (0, Dk.zeros)).toArray.size = 513; rw [List.size_toArray, wv_len _ Dk.zeros_size]
  have fin : ∀ (v' : Value) (w' : World), w'.ownsRow w.heap.size 69 513 v' (W.length + 1) (W.flatMap wv ++ wv x) → w.grownBy w' none →
      ∃ g' cap' r', v' = .slice (some ⟨g', 0, none⟩) (W.length + 1) cap' ∧ RowV w' g' 69 ((W ++ [x]).flatMap wv ++ r') ∧ W.length + 1 ≤ cap' ∧ cap' ≤ maxLen ∧ g' ≠ p ∧ g' ≠ gn ∧ g' ≠ gk ∧ (S g' ∨ w.heap.size ≤ g') ∧ (W.length + 1) * 513 + r'.length = cap' * 513 ∧ Only (fun k => S k ∧ k ≠ p ∧ k ≠ gn ∧ k ≠ gk) w w' := by
    intro v' w' ho hg
    rcases ho.2 with ⟨_, h0⟩ | ⟨g', cap', cur, rfl, hb, hh, h1, h2, h3, h4⟩
    · omega
    · refine ⟨g', cap', cur.toList.drop ((W.length + 1) * 513), rfl, ?_, h1, h2, by omega, by omega, by omega, .inr hb, ?_, (Only.refl _ w).grown hg (by intro k _ e; cases e)⟩
      · rw [hsnoc, ← h4, List.take_append_drop]
        exact hh
      · have hcl : cur.toList.length = cur.size := Array.length_toList
        rw [List.length_drop, hcl, h3]
        have := Nat.mul_le_mul_right 513 h1
        omega
  rcases h with ⟨rfl, rfl, rfl⟩ | ⟨g, r, rfl, hg, hcap, hmax, n1, n2, n3, hown⟩
  · obtain ⟨v', w', hr, ho, hgr, _⟩ := run_append_own_wide (P := Try.prog) w w.heap.size 53 ty 69 iw _ 513 520 Try.underlying53 hi hi2.1 hi2.2.1 hi2.2.2 hcs (by omega) _ 0 [] (World.ownsRow_nil w w.heap.size 69 513)
      ⟨N, 0, none⟩ 1 1 (wv x) (by rw [hxl]) hnews (wv_one x) (by unfold maxLen; omega) (by omega) (Nat.le_refl _)
    obtain ⟨g', cap', r', rfl, rest⟩ := fin v' w' (by simpa using ho) (by simpa [Value.ownBlock] using hgr)
    exact ⟨g', cap', r', w', hr, rest⟩
  · by_cases hroom : W.length < cap
    · obtain ⟨hS, hsz⟩ := hown hroom
      have hle := Nat.mul_le_mul_right 513 (show W.length + 1 ≤ cap from hroom)
      have hth := rowV_there hg (W.length * 513) 513 (by rw [List.length_append, hlen]; omega)
      have hr := run_append_room_cells (P := Try.prog) w 53 ty 69 iw Try.underlying53 hi g 0 W.length cap ⟨N, 0, none⟩ 1 1 (wv x) (by rw [hi2.2.1, hxl]) hnews (wv_one x) hroom
        (fun j hj => by rw [hi2.2.1, Nat.zero_add]; exact (hth j (by omega)).1) (fun j hj => by rw [hi2.2.1, Nat.zero_add]; exact (hth j (by omega)).2)
      rw [hi2.2.1, Nat.zero_add] at hr
      have hst := rowV_setCells (wv x) (W.length * 513) hg (by rw [hxl, List.length_append, hlen]; omega)
      refine ⟨g, cap, r.drop 513, _, hr, ?_, hroom, hmax, n1, n2, n3, .inl hS, ?_, (Only.refl _ w).setCells (fun _ => ⟨hS, n1, n2, n3⟩) _ _⟩
      · have e : (W.flatMap wv ++ r).take (W.length * 513) ++ wv x ++ (W.flatMap wv ++ r).drop (W.length * 513 + (wv x).length) = (W ++ [x]).flatMap wv ++ r.drop 513 := by
          rw [hsnoc, ← hlen, List.take_left', List.drop_append, hxl, List.drop_of_length_le (by omega), List.nil_append, show (W.flatMap wv).length + 513 - (W.flatMap wv).length = 513 by omega]
          rfl
        rw [← e]; exact hst
      · rw [List.length_drop]; exact room_left 513 _ _ _ hsz hle
    · have hcw : cap = W.length := by omega
      obtain ⟨v', w', hr, ho, hgr⟩ := run_append_arg_grows (P := Try.prog) w 53 ty 69 iw _ 513 520 Try.underlying53 hi hi2.1 hi2.2.1 hi2.2.2 hcs (by omega) ⟨g, 0, none⟩ W.length cap (W.flatMap wv) hlen
        (fun j u hj => by
          have hlt := (List.getElem?_eq_some_iff.1 hj).1
          rw [Addr.add_mid, Nat.zero_add, rowV_cell hg, List.getElem?_append_left hlt]; exact hj)
        ⟨N, 0, none⟩ 1 1 (wv x) (by rw [hxl]) hnews (by omega) (by unfold maxLen; omega) (by omega)
      obtain ⟨g', cap', r', rfl, rest⟩ := fin v' w' ho hgr
      exact ⟨g', cap', r', w', hr, rest⟩
end Go.Proofs.Ytjefmmbkkdaeiaa
