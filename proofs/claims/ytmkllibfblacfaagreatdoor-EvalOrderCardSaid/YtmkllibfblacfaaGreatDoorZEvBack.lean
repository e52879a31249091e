/-
  Layer 16, the program's: columns from the last one on, handed out with where they stand.
-/
import Derived.Test.YtmkllibfblacfaaGreatDoorPk3
namespace Go.Proofs.YtmkllibfblacfaaGreatDoor
open Go.RowKit Go.Shelf
open Sx (X)
attribute [local go_sem] Oper.semAt_some
/-- columns and where they stand -/
def ixL (L : List ColV) : List (Nat × ColV) := (List.range L.length).map fun i => (i, L.getD i ⟨Vl.mt, 0, none, 0, 0⟩)
theorem ixL_len (L : List ColV) : (ixL L).length = L.length := by unfold ixL; rw [List.length_map, List.length_range]
theorem ixL_at (L : List ColV) {k : Nat} (h : k < L.length) : (ixL L)[k]'(by rw [ixL_len]; exact h) = (k, L[k]) := by
  unfold ixL
  rw [List.getElem_map, List.getElem_range, List.getD_eq_getElem?_getD, List.getElem?_eq_getElem h]; rfl
set_option maxRecDepth 100000 in
set_option maxHeartbeats 12800000 in
theorem back16_hands {n : Nat} (hn : 1 ≤ n) {w0 : World} {m bx T : Nat} {al : Option Addr} {L : List ColV} {cap : Nat} (hL : L.length ≤ 1000000) (hr : RowV w0 bx 35 [.slice al L.length cap]) (hC : ReadsC w0 al L) (hNm : ∀ c ∈ L, c.name.size ≤ 1000000) (hm : ∀ b off, al = some ⟨b, off, none⟩ → L ≠ [] → b < m) (hms : m ≤ w0.heap.size) :
    Hands (α := ColA) n Tryz.prog 157 #[.pointer (some ⟨bx, 0, none⟩)] encB (KpB m bx) (fun ys => ys.map (·.1) = (ixL L).reverse) (fun ys => ∃ rest, ys.map (·.1) ++ rest = (ixL L).reverse) L.length T w0 := by
  intro l J Jx W hbw _ hJs0 hJxs0 hY h0
  have hJs := fun s => (hJs0 s).surv (Nat.le_refl _)
  have hbx := rowV_lt hr
  have hSW : ∀ j, (j < m ∨ j = bx) → W.heap[j]? = w0.heap[j]? := fun j hj => hbw.block j (by omega)
  have hrW := rowV_below hr hbw hbx
  have k0 := rowV_cell hrW 0
  simp only [List.getElem?_cons_zero] at k0
  clear hJs0 hJxs0 hrW
  generalize hNL : L.length = N at *
  refine callsIn_of_wp Tryz.func157 rfl trivial ?_
  simp only [Tryz.ntmps157, List.size_toArray, List.length_cons, List.length_nil, Nat.reduceAdd, Nat.reduceSub, Array.replicate_succ, Array.replicate_zero, List.push_toArray, List.append_toArray, List.nil_append, List.cons_append]
  gi_wp2
  gi_loopg [3] N (fun kk v3 wr => ∃ (k : Nat) (pre : List ColA), k = kk ∧ v3 = .int .i64 ((k : Int) - 1) ∧ k ≤ N ∧ pre.length + k = N ∧ Hid (pre.map (·.1) ++ ((ixL L).take k).reverse = (ixL L).reverse ∧ J pre wr ∧ (∀ j, (j < m ∨ j = bx) → wr.heap[j]? = w0.heap[j]?)))
  case atStart =>
    exact ⟨N, [], rfl, rfl, Nat.le_refl _, by simp, Lib.hid ⟨by rw [← hNL, ← ixL_len, List.take_length]; rfl, h0, hSW⟩⟩
  case round =>
    obtain ⟨k, pre, rfl, rfl, hkN, hpk, HI⟩ := hrel
    rcases Nat.eq_zero_or_pos k with rfl | hk0
    · have t1 : decide (((0 : Nat) : Int) - 1 ≥ 0) = false := by decide
      gi_wp2
      go_end0
      obtain ⟨h1, h2, _⟩ := HI.out
      rw [List.take_zero, List.reverse_nil, List.append_nil] at h1
      exact ⟨⟨_, rfl⟩, .inl ⟨pre, h1, h2⟩⟩
    · obtain ⟨k, rfl⟩ : ∃ q, k = q + 1 := ⟨k - 1, by omega⟩
      have ek : ((k + 1 : Nat) : Int) - 1 = (k : Int) := by omega
      rw [ek]
      have hkL : k < L.length := by omega
      have t1 : decide ((k : Int) ≥ 0) = true := decide_eq_true (by omega)
      have hCr := readsC_side hC hm HI.out.2.2
      obtain ⟨b, off, rfl, d0, d1, d2⟩ := hCr k hkL
      have hrr : RowV wr bx 35 [.slice (some ⟨b, off, none⟩) N cap] := (HI.out.2.2 bx (.inr rfl)).trans hr
      have k1 := rowV_cell hrr 0
      simp only [List.getElem?_cons_zero] at k1
      have hpl : pre.length < N := by omega
      obtain ⟨fn, tmps, assign, body, hy, hR⟩ := hY pre ⟨(k, L[k]), hNm _ (List.getElem_mem hkL)⟩ wr HI.out.2.1 hpl
      dsimp only [encB, colV] at hy
      have hsn : (pre ++ [(⟨(k, L[k]), hNm _ (List.getElem_mem hkL)⟩ : ColA)]).map (·.1) ++ ((ixL L).take k).reverse = (ixL L).reverse := by
        have h1 := HI.out.1
        rw [List.take_succ_eq_append_getElem (by rw [ixL_len]; exact hkL), List.reverse_append, ixL_at L hkL] at h1
        rw [List.map_append, List.append_assoc]
        exact h1
      have hSr := Lib.hid HI.out.2.2
      have hszr : ∀ j, (j < m ∨ j = bx) → j < wr.heap.size := fun j hj => by
        have h1 := HI.out.2.2 j hj
        have h2 : j < w0.heap.size := by omega
        rw [Array.getElem?_eq_getElem h2] at h1
        exact (Array.getElem?_eq_some_iff.1 h1).1
      have HSN := Lib.hid (And.intro hsn hszr)
      clear hsn hrr hCr hszr
      generalize hcc : (⟨(k, L[k]), hNm _ (List.getElem_mem hkL)⟩ : ColA) = c at *
      have e1 : L[k] = c.1.2 := by rw [← hcc]
      rw [e1] at hy d0 d1 d2
      clear hcc e1
      gi_wp2
      refine hR.mono ?_
      rintro e w5 (⟨rfl, hJ5, hk5⟩ | ⟨rfl, hJ5, -⟩)
      · gi_wp2
        gi_roundg k
        · exact ⟨k, pre ++ [c], rfl, rfl, by omega, by rw [List.length_append]; simp; omega, Lib.hid ⟨HSN.out.1, hJ5, fun j hj => (hk5.2 j hj (HSN.out.2 j hj)).trans (hSr.out j hj)⟩⟩
        · omega
      · gi_wp2
        refine bodyPost_ret (results_none rfl _ _ _) rfl ?_
        exact ⟨⟨_, rfl⟩, .inr ⟨_, ⟨_, HSN.out.1⟩, hJ5⟩⟩
end Go.Proofs.YtmkllibfblacfaaGreatDoor
