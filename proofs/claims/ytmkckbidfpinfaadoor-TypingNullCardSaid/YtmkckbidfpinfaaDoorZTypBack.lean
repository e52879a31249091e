/-
  Layer 15, the program's: columns from the last one on (slices.Backward), handed out.
-/
import Derived.Test.YtmkckbidfpinfaaDoorZSynPrR
import Derived.Test.YtmkckbidfpinfaaDoorZTypScope
namespace Go.Proofs.YtmkckbidfpinfaaDoor
open Go.RowKit Go.Shelf
open Sx (X)
attribute [local go_sem] Oper.semAt_some
/-- a column: its name, its kind, its order's list -/
structure ColV where
  name : ByteArray
  kind : Int
  oa : Option Addr
  on : Nat
  oc : Nat
/-- what counts of it -/
def colK (c : ColV) : Ty.Col := (c.name, c.kind)
abbrev colV (c : ColV) : Value := .agg #[.string c.name, .int .i64 c.kind, .slice c.oa c.on c.oc]
/-- a list of columns, read -/
def ReadsC (w : World) (al : Option Addr) (l : List ColV) : Prop := ∀ i (h : i < l.length), ∃ b off, al = some ⟨b, off, none⟩ ∧ w.cell? ⟨b, off + i * 3, none⟩ = some (.string l[i].name) ∧ w.cell? ⟨b, off + i * 3 + 1, none⟩ = some (.int .i64 l[i].kind) ∧ w.cell? ⟨b, off + i * 3 + 2, none⟩ = some (.slice l[i].oa l[i].on l[i].oc)
theorem readsC_below {w w' : World} {al : Option Addr} {l : List ColV} (h : ReadsC w al l) (hb : Below w.heap.size w w') : ReadsC w' al l := fun i hi => by
  obtain ⟨b, off, e, h0, h1, h2⟩ := h i hi
  exact ⟨b, off, e, (hb.cell (World.block_lt_of_cell? _ _ h0)).trans h0, (hb.cell (World.block_lt_of_cell? _ _ h1)).trans h1, (hb.cell (World.block_lt_of_cell? _ _ h2)).trans h2⟩
/-- what a round keeps: the blocks below m, and block bx -/
def KpB (m bx : Nat) (W W' : World) : Prop := W.heap.size ≤ W'.heap.size ∧ ∀ j, (j < m ∨ j = bx) → j < W.heap.size → W'.heap[j]? = W.heap[j]?
theorem kpB_t {m bx : Nat} {A B C : World} (h : KpB m bx A B) (k : KpB m bx B C) : KpB m bx A C :=
  ⟨Nat.le_trans h.1 k.1, fun j hj hl => (k.2 j hj (Nat.lt_of_lt_of_le hl h.1)).trans (h.2 j hj hl)⟩
theorem kpB_below {m bx : Nat} {W W' : World} (hb : Below W.heap.size W W') : KpB m bx W W' := ⟨hb.size, fun j _ hl => hb.block j hl⟩
theorem kpB_only {F : Nat → Prop} {m bx : Nat} {W W' : World} (ho : Only F W W') (hF : ∀ k, F k → m ≤ k ∧ k ≠ bx) : KpB m bx W W' :=
  ⟨ho.size, fun j hj hl => ho.block j hl fun h => by have := hF j h; omega⟩
theorem kpB_put {m bx l : Nat} {W : World} (o' : Obj) (hl : m ≤ l) (hb : l ≠ bx) : KpB m bx W (W.putObj l o') := kpB_only (putObj_only W l o') fun k e => by have e2 : k = l := e; omega
/-- the columns lie as they lay -/
theorem readsC_side {w0 W : World} {m bx : Nat} {al : Option Addr} {l : List ColV} (h : ReadsC w0 al l) (hm : ∀ b off, al = some ⟨b, off, none⟩ → l ≠ [] → b < m) (hW : ∀ j, (j < m ∨ j = bx) → W.heap[j]? = w0.heap[j]?) : ReadsC W al l := fun i hi => by
  obtain ⟨b, off, e, h0, h1, h2⟩ := h i hi
  have hb := hW b (.inl (hm b off e fun e => by subst e; cases hi))
  have hc : ∀ k, W.cell? ⟨b, k, none⟩ = w0.cell? ⟨b, k, none⟩ := fun k => by unfold World.cell?; rw [hb]
  exact ⟨b, off, e, (hc _).trans h0, (hc _).trans h1, (hc _).trans h2⟩
/-- a column and where it stands; its name is not too long -/
abbrev ColA := { y : Nat × ColV // y.2.name.size ≤ 1000000 }
abbrev encB (y : ColA) : Array Value := #[.int .i64 (y.1.1 : Int), colV y.1.2]
set_option maxRecDepth 100000 in
theorem back15_call (al : Option Addr) (n cap : Nat) (w : World) : Calls Tryd.prog 49 #[.slice al n cap] w fun e w' => e = .returned (.func (.func 64) #[] #[.pointer (some ⟨w.heap.size, 0, none⟩)]) ∧ w' = w.alloc (.cells #[.slice al n cap] 22) := by
  go_enter Tryd.func49, Tryd.ntmps49
  go_wp2_with fail
  go_ret
  exact ⟨rfl, rfl⟩
set_option maxRecDepth 100000 in
set_option maxHeartbeats 12800000 in
theorem back15_hands {n : Nat} (hn : 1 ≤ n) {w0 : World} {m bx T : Nat} {al : Option Addr} {L : List ColV} {cap : Nat} (hL : L.length ≤ 1000000) (hr : RowV w0 bx 22 [.slice al L.length cap]) (hC : ReadsC w0 al L) (hNm : ∀ c ∈ L, c.name.size ≤ 1000000) (hm : ∀ b off, al = some ⟨b, off, none⟩ → L ≠ [] → b < m) (hms : m ≤ w0.heap.size) :
    Hands (α := ColA) n Tryd.prog 64 #[.pointer (some ⟨bx, 0, none⟩)] encB (KpB m bx) (fun ys => ys.map (·.1.2) = L.reverse) (fun ys => ∃ rest, ys.map (·.1.2) ++ rest = L.reverse) L.length T w0 := by
  intro l J Jx W hbw _ hJs0 hJxs0 hY h0
  have hJs := fun s => (hJs0 s).surv (Nat.le_refl _)
  have hbx := rowV_lt hr
  have hSW : ∀ j, (j < m ∨ j = bx) → W.heap[j]? = w0.heap[j]? := fun j hj => hbw.block j (by omega)
  have hrW := rowV_below hr hbw hbx
  have k0 := rowV_cell hrW 0
  simp only [List.getElem?_cons_zero] at k0
  clear hJs0 hJxs0 hrW
  generalize hNL : L.length = N at *
  refine callsIn_of_wp Tryd.func64 rfl trivial ?_
  simp only [Tryd.ntmps64, List.size_toArray, List.length_cons, List.length_nil, Nat.reduceAdd, Nat.reduceSub, Array.replicate_succ, Array.replicate_zero, List.push_toArray, List.append_toArray, List.nil_append, List.cons_append]
  gi_wp2
  gi_loopg [3] N (fun kk v3 wr => ∃ (k : Nat) (pre : List ColA), k = kk ∧ v3 = .int .i64 ((k : Int) - 1) ∧ k ≤ N ∧ pre.length + k = N ∧ Hid (pre.map (·.1.2) ++ (L.take k).reverse = L.reverse ∧ J pre wr ∧ (∀ j, (j < m ∨ j = bx) → wr.heap[j]? = w0.heap[j]?)))
  case atStart =>
    exact ⟨N, [], rfl, rfl, Nat.le_refl _, by simp, Lib.hid ⟨by rw [← hNL, List.take_length]; rfl, h0, hSW⟩⟩
  case round =>
    obtain ⟨k, pre, rfl, rfl, hkN, hpk, HI⟩ := hrel
    rcases Nat.eq_zero_or_pos k with rfl | hk0
    · have t1 : decide (((0 : Nat) : Int) - 1 ≥ 0) = false := by decide
      gi_wp2
      go_end0
      obtain ⟨h1, h2, _⟩ := HI.out
      rw [List.take_zero, List.reverse_nil, List.append_nil] at h1
      exact ⟨⟨_, rfl⟩, .inl ⟨pre, h1, h2⟩⟩
    · obtain ⟨k, rfl⟩ : ∃ q, k = q + 1 := ⟨k - 1, by omega⟩
      have ek : ((k + 1 : Nat) : Int) - 1 = (k : Int) := by omega
      rw [ek]
      have hkL : k < L.length := by omega
      have t1 : decide ((k : Int) ≥ 0) = true := decide_eq_true (by omega)
      have hCr := readsC_side hC hm HI.out.2.2
      obtain ⟨b, off, rfl, d0, d1, d2⟩ := hCr k hkL
      have hrr : RowV wr bx 22 [.slice (some ⟨b, off, none⟩) N cap] := (HI.out.2.2 bx (.inr rfl)).trans hr
      have k1 := rowV_cell hrr 0
      simp only [List.getElem?_cons_zero] at k1
      have hpl : pre.length < N := by omega
      obtain ⟨fn, tmps, assign, body, hy, hR⟩ := hY pre ⟨(k, L[k]), hNm _ (List.getElem_mem hkL)⟩ wr HI.out.2.1 hpl
      dsimp only [encB, colV] at hy
      have hsn : (pre ++ [(⟨(k, L[k]), hNm _ (List.getElem_mem hkL)⟩ : ColA)]).map (·.1.2) ++ (L.take k).reverse = L.reverse := by
        have h1 := HI.out.1
        rw [List.take_succ_eq_append_getElem hkL, List.reverse_append] at h1
        rw [List.map_append, List.append_assoc]
        exact h1
      have hSr := Lib.hid HI.out.2.2
      have hszr : ∀ j, (j < m ∨ j = bx) → j < wr.heap.size := fun j hj => by
        have h1 := HI.out.2.2 j hj
        have h2 : j < w0.heap.size := by omega
        rw [Array.getElem?_eq_getElem h2] at h1
        exact (Array.getElem?_eq_some_iff.1 h1).1
      have HSN := Lib.hid (And.intro hsn hszr)
      clear hsn hrr hCr hszr
      generalize hcc : (⟨(k, L[k]), hNm _ (List.getElem_mem hkL)⟩ : ColA) = c at *
      have e1 : L[k] = c.1.2 := by rw [← hcc]
      rw [e1] at hy d0 d1 d2
      clear hcc e1
      gi_wp2
      refine hR.mono ?_
      rintro e w5 (⟨rfl, hJ5, hk5⟩ | ⟨rfl, hJ5, -⟩)
      · gi_wp2
        gi_roundg k
        · exact ⟨k, pre ++ [c], rfl, rfl, by omega, by rw [List.length_append]; simp; omega, Lib.hid ⟨HSN.out.1, hJ5, fun j hj => (hk5.2 j hj (HSN.out.2 j hj)).trans (hSr.out j hj)⟩⟩
        · omega
      · gi_wp2
        refine bodyPost_ret (results_none rfl _ _ _) rfl ?_
        exact ⟨⟨_, rfl⟩, .inr ⟨_, ⟨_, HSN.out.1⟩, hJ5⟩⟩
end Go.Proofs.YtmkckbidfpinfaaDoor
