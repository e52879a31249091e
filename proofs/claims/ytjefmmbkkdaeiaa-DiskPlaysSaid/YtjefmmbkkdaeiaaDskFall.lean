/-
  Layer 4: what the fate of a write makes of a block.
-/
import Derived.Test.YtjefmmbkkdaeiaaDskSet
import Derived.Laws.CopyOwn
import Derived.BigRegion
import Derived.Deep.WholeRow
namespace Go.Proofs.Ytjefmmbkkdaeiaa
open Go.RowKit

theorem block_zero : (Try.prog.info? 67).map (fun i => (i.zero, i.size)) = some (some (.agg (bv Dk.zeros).toArray), 512) := by kernel_rfl
theorem byte_one : (Try.prog.info? 5).map (·.size) = some 1 := by kernel_rfl
theorem bv_app (a b : ByteArray) : bv (a ++ b) = bv a ++ bv b := by
  unfold bv valB
  rw [show (a ++ b).data = a.data ++ b.data from ByteArray.data_append .., Array.toList_append, List.map_append]
theorem bv_cut (a : ByteArray) (i j : Nat) : bv (a.extract i j) = ((bv a).take j).drop i := by
  unfold bv valB
  rw [show (a.extract i j).data = a.data.extract i j from ByteArray.data_extract .., Array.toList_extract, List.extract_eq_take_drop, ← List.drop_take, List.map_drop, List.map_take]
theorem splice_front (old s : ByteArray) (h1 : old.size = 512) (h2 : s.size = 512) : splice (bv old) 0 (bv (s.extract 0 256)) = bv (s.extract 0 256 ++ old.extract 256 512) := by
  have e1 : (bv (s.extract 0 256)).length = 256 := by rw [bv_len, ByteArray.size_extract]; omega
  have e2 : (bv old).take 512 = bv old := List.take_of_length_le (by rw [bv_len]; omega)
  unfold splice
  rw [bv_app, e1, bv_cut old, e2]; rfl
theorem splice_back (old s : ByteArray) (h1 : old.size = 512) (h2 : s.size = 512) : splice (bv old) 256 (bv (s.extract 256 512)) = bv (old.extract 0 256 ++ s.extract 256 512) := by
  have e1 : (bv (s.extract 256 512)).length = 256 := by rw [bv_len, ByteArray.size_extract]; omega
  have e2 : (bv old).drop (256 + 256) = [] := List.drop_of_length_le (by rw [bv_len]; omega)
  unfold splice
  rw [bv_app, e1, e2, List.append_nil, bv_cut old, List.drop_zero]
/-- copy into a row that is known whole, as one step of a region that draws its order; the source a slice -/
theorem step_copy_row {P : Program} {ops : Array Oper} {o : Oper} {a : Act} {w : World} {K : Act → World → Prop} {Q : Exit → Act → World → Prop} {E : Prop} (hgd : o.guard = none) (d s : Operand) (dT sT : TypeId)
    (ho : o.op = .call { callee := .builtin .copy, args := #[d, s], argTypes := #[dT, sT] }) (elem : TypeId) (hu : P.underlying dT = some (.slice elem)) (hsz : (P.info? elem).map (·.size) = some 1)
    (g off dLen dCap : Nat) (ad : Addr) (sLen sCap : Nat) (hd : a.eval d = .slice (some ⟨g, off, none⟩) dLen dCap) (hs : a.eval s = .slice (some ad) sLen sCap)
    (cur : List Value) (t : TypeId) (hg : w.heap[g]? = some (.cells cur.toArray t (0, 0))) (cs : List Value) (hn : cs.length = Nat.min sLen dLen)
    (hsrc : ∀ j v, cs[j]? = some v → w.cell? (ad.add j) = some v) (hfit : off + cs.length ≤ cur.length) (h1 : ∀ v ∈ cs, v.oneCell' = true) (R : List Value) (hR : splice cur off cs = R)
    (h : K (a.put o.dst (goInt cs.length)) (w.setRow g R.toArray)) : if Region.wanted o (yielded ops a.tmps) = true then Oper.wp P o a w K Q else E := by
  have hw : Region.wanted o (yielded ops a.tmps) = true := by simp [Region.wanted, hgd]
  rw [if_pos hw]
  have hrun := run_copy_row (P := P) w dT sT o.type elem g off dLen dCap ad sLen sCap cur.toArray t cs hu hsz hg hn hsrc (by simpa using hfit) h1
  have e : cur.toArray.toList.take off ++ cs ++ cur.toArray.toList.drop (off + cs.length) = R := by rw [← hR]; simp [splice]
  rw [e] at hrun
  unfold Oper.wp
  simp [execOp, ho, resolve, invoke, builtin, hd, hs, hrun, Result.andThen]
  exact h
theorem below_alloc2 (w : World) (o1 o2 : Obj) : Below w.heap.size w ((w.alloc o1).alloc o2) := ((Below.refl _ w).alloc (Nat.le_refl _) _).alloc (by simp) _

set_option maxRecDepth 100000 in
set_option maxHeartbeats 1600000 in
theorem falls_any (w : World) (g o : Nat) (old s : ByteArray) (f : Int) (h1 : old.size = 512) (h2 : s.size = 512) (hs : w.rangeAt g (o + 1) (bv s)) :
    Calls Try.prog 33 #[.pointer (some ⟨g, o, none⟩), .agg (bv old).toArray, .int .i64 f] w fun e w' => e = .returned (.agg (bv (Dk.falls f old s)).toArray) ∧ Below w.heap.size w w' := by
  have hz := (zero_of_info (P := Try.prog) block_zero).1
  have hu := block_under
  have k1 : (bv old).toArray.size = 512 := by rw [List.size_toArray, bv_len, h1]
  have k2 : (bv s).toArray.size = 512 := by rw [List.size_toArray, bv_len, h2]
  have k3 : (bv Dk.zeros).toArray.size = 512 := by rw [List.size_toArray, bv_len, Dk.zeros_size]
  have i0 : (Try.prog.info? 67).map (·.size) = some 512 := (zero_of_info (P := Try.prog) block_zero).2
  have o2 := bv_one s
  have i2 := block_size s h2
  have hlen : ∀ X : Array Value, X.size = 512 → (Try.prog.info? 67).map (·.size) = some X.size := fun X h => by rw [h]; exact i0
  have hZ1 : (bv Dk.zeros).toArray.all (·.oneCell') = true := all_oneCell_toArray (bv_one _)
  have hO1 : (bv old).toArray.all (·.oneCell') = true := all_oneCell_toArray (bv_one _)
  have ga := heap_alloc2_old w (.cells (bv old).toArray 67) (.cells (bv Dk.zeros).toArray 67)
  have gb := heap_alloc2_new w (.cells (bv old).toArray 67) (.cells (bv Dk.zeros).toArray 67)
  have hb := below_alloc2 w (.cells (bv old).toArray 67) (.cells (bv Dk.zeros).toArray 67)
  have hs2 : ((w.alloc (.cells (bv old).toArray 67)).alloc (.cells (bv Dk.zeros).toArray 67)).rangeAt g (o + 1) (bv s) := World.rangeAt_alloc (World.rangeAt_alloc hs _) _
  by_cases f1 : f = 1
  · have eF : Dk.falls f old s = s := by unfold Dk.falls; rw [if_pos f1]
    generalize Dk.falls f old s = R at *
    subst eF
    have hsR : (bv R).toArray.all (·.oneCell') = true := all_oneCell_toArray o2
    subst f1
    generalize bv Dk.zeros = LZ at *
    generalize bv old = LO at *
    generalize bv R = LS at *
    have HH := Lib.hid (And.intro hb (And.intro gb (And.intro hlen (And.intro k2 (And.intro k3 (And.intro hsR i2))))))
    clear hb ga gb hlen k1 k2 k3 i0 i2 o2 hZ1 hO1 h1 h2 hs hsR
    go_enter Try.func33, Try.ntmps33
    go_wp2_with (first
      | (refine wpList_load_mid rfl _ _ rfl _ _ rfl LS _ hs2 hu rfl HH.out.2.2.2.2.2.2 ?_)
      | (refine wpList_store_row rfl 67 _ _ rfl (w.heap.size + 1) LS.toArray rfl rfl 67 LZ.toArray HH.out.2.1 (HH.out.2.2.1 _ HH.out.2.2.2.1) (by rw [HH.out.2.2.2.2.1, HH.out.2.2.2.1]) HH.out.2.2.2.2.2.1 ?_))
    have hr := setRow_heap _ (w.heap.size + 1) LZ.toArray LS.toArray 67 (0, 0) HH.out.2.1
    refine bodyPost_ret (v := .agg LS.toArray) (results_cell_row rfl _ _ (w.heap.size + 1) _ _ _ _ rfl hr Try.underlying67 rfl (HH.out.2.2.1 _ HH.out.2.2.2.1)) rfl ⟨rfl, ?_⟩
    exact below_setRow HH.out.1 (by omega) _
  · by_cases f2 : f = 2
    · have eF : Dk.falls f old s = s.extract 0 256 ++ old.extract 256 512 := by unfold Dk.falls; rw [if_neg f1, if_pos f2]
      have hsp := splice_front old s h1 h2
      rw [← eF] at hsp
      have cl : (bv (s.extract 0 256)).length = 256 := by rw [bv_len, ByteArray.size_extract]; omega
      have co := bv_one (s.extract 0 256)
      have csrc : ∀ (j : Nat) (v : Value), (bv (s.extract 0 256))[j]? = some v → (bv s)[j]? = some v := by
        intro j v hv
        have hj : j < 256 := by have := (List.getElem?_eq_some_iff.1 hv).1; omega
        rw [bv_cut, List.drop_zero, List.getElem?_take, if_pos hj] at hv
        exact hv
      have hR : (bv (Dk.falls f old s)).toArray.size = 512 := by rw [List.size_toArray, bv_len, Dk.falls_size _ _ _ h1 h2]
      have hR1 : (bv (Dk.falls f old s)).toArray.all (·.oneCell') = true := all_oneCell_toArray (bv_one _)
      have kO : (bv old).length = 512 := by rw [bv_len, h1]
      generalize Dk.falls f old s = R at *
      generalize s.extract 0 256 = H at *
      subst f2
      generalize bv Dk.zeros = LZ at *
      generalize bv old = LO at *
      generalize bv R = LR at *
      generalize bv H = LH at *
      have hsrc : ∀ (j : Nat) (v : Value), LH[j]? = some v → ((w.alloc (.cells LO.toArray 67)).alloc (.cells LZ.toArray 67)).cell? ⟨g, o + 1 + j, none⟩ = some v := fun j v hv => hs2 j v (csrc j v hv)
      have HH := Lib.hid (And.intro hb (And.intro gb (And.intro hlen (And.intro hR (And.intro k3 (And.intro hR1 (And.intro ga (And.intro hsp (And.intro cl (And.intro co (And.intro hsrc kO)))))))))))
      clear hb ga gb hlen k1 k2 k3 i0 i2 o2 hZ1 hO1 h1 h2 hs hs2 hR hR1 hsp cl co csrc hsrc eF kO
      go_enter Try.func33, Try.ntmps33
      go_wp2_with fail
      go_region_law (refine step_copy_row rfl (.tmp 16) (.tmp 20) 58 58 rfl 5 Try.underlying58 byte_one w.heap.size 0 256 512 ⟨g, o + 1, none⟩ 256 512 (by simp [Act.eval, Act.put]) (by simp [Act.eval, Act.put]) LO 67 HH.out.2.2.2.2.2.2.1 LH (by rw [HH.out.2.2.2.2.2.2.2.2.1]; rfl) (fun j v hv => by rw [Addr.add_mid]; exact HH.out.2.2.2.2.2.2.2.2.2.2.1 j v hv) (by rw [HH.out.2.2.2.2.2.2.2.2.1, HH.out.2.2.2.2.2.2.2.2.2.2.2]; omega) HH.out.2.2.2.2.2.2.2.2.2.1 LR HH.out.2.2.2.2.2.2.2.1 ?_)
      generalize hwa : World.setRow _ _ _ = wa
      have hga : wa.heap[w.heap.size]? = some (.cells LR.toArray 67 (0, 0)) := by rw [← hwa]; exact setRow_heap _ w.heap.size LO.toArray LR.toArray 67 (0, 0) HH.out.2.2.2.2.2.2.1
      have hgb : wa.heap[w.heap.size + 1]? = some (.cells LZ.toArray 67 (0, 0)) := by rw [← hwa, setRow_far _ _ _ _ (by omega)]; exact HH.out.2.1
      have hbb : Below w.heap.size w wa := by rw [← hwa]; exact below_setRow HH.out.1.drew (Nat.le_refl _) _
      have HA := Lib.hid (And.intro hga (And.intro hgb hbb))
      clear hwa hga hgb hbb
      go_wp2_with (first
        | (refine wpList_load_row rfl 67 _ rfl w.heap.size rfl _ _ _ _ HA.out.1 Try.underlying67 rfl (HH.out.2.2.1 _ HH.out.2.2.2.1) ?_)
        | (refine wpList_store_row rfl 67 _ _ rfl (w.heap.size + 1) LR.toArray rfl rfl 67 LZ.toArray HA.out.2.1 (HH.out.2.2.1 _ HH.out.2.2.2.1) (by rw [HH.out.2.2.2.2.1, HH.out.2.2.2.1]) HH.out.2.2.2.2.2.1 ?_))
      have hr := setRow_heap _ (w.heap.size + 1) LZ.toArray LR.toArray 67 (0, 0) HA.out.2.1
      refine bodyPost_ret (v := .agg LR.toArray) (results_cell_row rfl _ _ (w.heap.size + 1) _ _ _ _ rfl hr Try.underlying67 rfl (HH.out.2.2.1 _ HH.out.2.2.2.1)) rfl ⟨rfl, ?_⟩
      exact below_setRow HA.out.2.2 (by omega) _
    · by_cases f3 : f = 3
      · have eF : Dk.falls f old s = old.extract 0 256 ++ s.extract 256 512 := by unfold Dk.falls; rw [if_neg f1, if_neg f2, if_pos f3]
        have hsp := splice_back old s h1 h2
        rw [← eF] at hsp
        have cl : (bv (s.extract 256 512)).length = 256 := by rw [bv_len, ByteArray.size_extract]; omega
        have co := bv_one (s.extract 256 512)
        have csrc : ∀ (j : Nat) (v : Value), (bv (s.extract 256 512))[j]? = some v → (bv s)[256 + j]? = some v := by
          intro j v hv
          have hj : j < 256 := by have := (List.getElem?_eq_some_iff.1 hv).1; omega
          rw [bv_cut, List.getElem?_drop, List.getElem?_take, if_pos (by omega)] at hv
          exact hv
        have hR : (bv (Dk.falls f old s)).toArray.size = 512 := by rw [List.size_toArray, bv_len, Dk.falls_size _ _ _ h1 h2]
        have hR1 : (bv (Dk.falls f old s)).toArray.all (·.oneCell') = true := all_oneCell_toArray (bv_one _)
        have kO : (bv old).length = 512 := by rw [bv_len, h1]
        generalize Dk.falls f old s = R at *
        generalize s.extract 256 512 = H at *
        subst f3
        generalize bv Dk.zeros = LZ at *
        generalize bv old = LO at *
        generalize bv R = LR at *
        generalize bv H = LH at *
        have hsrc : ∀ (j : Nat) (v : Value), LH[j]? = some v → ((w.alloc (.cells LO.toArray 67)).alloc (.cells LZ.toArray 67)).cell? ⟨g, o + 1 + 256 + j, none⟩ = some v := fun j v hv => by rw [Nat.add_assoc (o + 1)]; exact hs2 _ v (csrc j v hv)
        have HH := Lib.hid (And.intro hb (And.intro gb (And.intro hlen (And.intro hR (And.intro k3 (And.intro hR1 (And.intro ga (And.intro hsp (And.intro cl (And.intro co (And.intro hsrc kO)))))))))))
        clear hb ga gb hlen k1 k2 k3 i0 i2 o2 hZ1 hO1 h1 h2 hs hs2 hR hR1 hsp cl co csrc hsrc eF kO
        go_enter Try.func33, Try.ntmps33
        go_wp2_with fail
        go_region_law (refine step_copy_row rfl (.tmp 24) (.tmp 28) 58 58 rfl 5 Try.underlying58 byte_one w.heap.size 256 256 256 ⟨g, o + 1 + 256, none⟩ 256 256 (by simp [Act.eval, Act.put]) (by simp [Act.eval, Act.put]) LO 67 HH.out.2.2.2.2.2.2.1 LH (by rw [HH.out.2.2.2.2.2.2.2.2.1]; rfl) (fun j v hv => by rw [Addr.add_mid]; exact HH.out.2.2.2.2.2.2.2.2.2.2.1 j v hv) (by rw [HH.out.2.2.2.2.2.2.2.2.1, HH.out.2.2.2.2.2.2.2.2.2.2.2]; omega) HH.out.2.2.2.2.2.2.2.2.2.1 LR HH.out.2.2.2.2.2.2.2.1 ?_)
        generalize hwa : World.setRow _ _ _ = wa
        have hga : wa.heap[w.heap.size]? = some (.cells LR.toArray 67 (0, 0)) := by rw [← hwa]; exact setRow_heap _ w.heap.size LO.toArray LR.toArray 67 (0, 0) HH.out.2.2.2.2.2.2.1
        have hgb : wa.heap[w.heap.size + 1]? = some (.cells LZ.toArray 67 (0, 0)) := by rw [← hwa, setRow_far _ _ _ _ (by omega)]; exact HH.out.2.1
        have hbb : Below w.heap.size w wa := by rw [← hwa]; exact below_setRow HH.out.1.drew (Nat.le_refl _) _
        have HA := Lib.hid (And.intro hga (And.intro hgb hbb))
        clear hwa hga hgb hbb
        go_wp2_with (first
          | (refine wpList_load_row rfl 67 _ rfl w.heap.size rfl _ _ _ _ HA.out.1 Try.underlying67 rfl (HH.out.2.2.1 _ HH.out.2.2.2.1) ?_)
          | (refine wpList_store_row rfl 67 _ _ rfl (w.heap.size + 1) LR.toArray rfl rfl 67 LZ.toArray HA.out.2.1 (HH.out.2.2.1 _ HH.out.2.2.2.1) (by rw [HH.out.2.2.2.2.1, HH.out.2.2.2.1]) HH.out.2.2.2.2.2.1 ?_))
        have hr := setRow_heap _ (w.heap.size + 1) LZ.toArray LR.toArray 67 (0, 0) HA.out.2.1
        refine bodyPost_ret (v := .agg LR.toArray) (results_cell_row rfl _ _ (w.heap.size + 1) _ _ _ _ rfl hr Try.underlying67 rfl (HH.out.2.2.1 _ HH.out.2.2.2.1)) rfl ⟨rfl, ?_⟩
        exact below_setRow HA.out.2.2 (by omega) _
      · have eF : Dk.falls f old s = old := by unfold Dk.falls; rw [if_neg f1, if_neg f2, if_neg f3]
        rw [eF]
        generalize bv Dk.zeros = LZ at *
        generalize bv old = LO at *
        have HH := Lib.hid (And.intro hb (And.intro gb (And.intro hlen (And.intro k1 (And.intro k3 (And.intro hO1 ga))))))
        clear hb ga gb hlen k1 k2 k3 i0 i2 o2 hZ1 hO1 h1 h2 hs eF hs2
        go_enter Try.func33, Try.ntmps33
        go_wp2_with (first
          | (refine wpList_load_row rfl 67 _ rfl w.heap.size rfl _ _ _ _ HH.out.2.2.2.2.2.2 Try.underlying67 rfl (HH.out.2.2.1 _ HH.out.2.2.2.1) ?_)
          | (refine wpList_store_row rfl 67 _ _ rfl (w.heap.size + 1) LO.toArray rfl rfl 67 LZ.toArray HH.out.2.1 (HH.out.2.2.1 _ HH.out.2.2.2.1) (by rw [HH.out.2.2.2.2.1, HH.out.2.2.2.1]) HH.out.2.2.2.2.2.1 ?_))
        have hr := setRow_heap _ (w.heap.size + 1) LZ.toArray LO.toArray 67 (0, 0) HH.out.2.1
        refine bodyPost_ret (v := .agg LO.toArray) (results_cell_row rfl _ _ (w.heap.size + 1) _ _ _ _ rfl hr Try.underlying67 rfl (HH.out.2.2.1 _ HH.out.2.2.2.1)) rfl ⟨rfl, ?_⟩
        exact below_setRow HH.out.1 (by omega) _
end Go.Proofs.Ytjefmmbkkdaeiaa
