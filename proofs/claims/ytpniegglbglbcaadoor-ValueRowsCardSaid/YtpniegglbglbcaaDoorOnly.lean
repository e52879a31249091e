/-
  What a call may have turned, said by a set of blocks ('Only F w w''): for calls that write into objects that were there before them. Objects whose blocks are apart go their own ways.
-/
import Derived.Test.YtpniegglbglbcaaDoorBase
import Derived.Test.YtpniegglbglbcaaDoorRowV
namespace Go.Proofs.YtpniegglbglbcaaDoor
open Go.RowKit

/-- of the blocks that were there only those of F may have turned; the streams are as they were -/
structure Only (F : Nat → Prop) (w w' : World) : Prop where
  os : w'.os = w.os
  tape : w'.tape = w.tape
  output : w'.output = w.output
  size : w.heap.size ≤ w'.heap.size
  block : ∀ k, k < w.heap.size → ¬ F k → w'.heap[k]? = w.heap[k]?
namespace Only
theorem refl (F : Nat → Prop) (w : World) : Only F w w := ⟨rfl, rfl, rfl, Nat.le_refl _, fun _ _ _ => rfl⟩
theorem mono {F G : Nat → Prop} {w w' : World} (h : Only F w w') (hs : ∀ k, k < w.heap.size → F k → G k) : Only G w w' := ⟨h.os, h.tape, h.output, h.size, fun k hk hn => h.block k hk fun hf => hn (hs k hk hf)⟩
theorem trans {F G : Nat → Prop} {a b c : World} (h : Only F a b) (k : Only G b c) (hs : ∀ i, i < a.heap.size → G i → F i) : Only F a c :=
  ⟨k.os.trans h.os, k.tape.trans h.tape, k.output.trans h.output, Nat.le_trans h.size k.size, fun i hi hn => (k.block i (Nat.lt_of_lt_of_le hi h.size) fun hg => hn (hs i hi hg)).trans (h.block i hi hn)⟩
/-- the same set again -/
theorem more {F : Nat → Prop} {a b c : World} (h : Only F a b) (k : Only F b c) : Only F a c := h.trans k fun _ _ x => x
theorem of_below {B : Nat} {w w' : World} (h : Below B w w') : Only (fun k => B ≤ k) w w' := ⟨h.os, h.tape, h.output, h.size, fun k _ hn => h.block k (by omega)⟩
/-- nothing that was there has turned -/
theorem of_none {F : Nat → Prop} {w w' : World} (h : Below w.heap.size w w') : Only F w w' := (of_below h).mono fun k hk hf => by omega
theorem below {F : Nat → Prop} {B : Nat} {w w' : World} (h : Only F w w') (hF : ∀ k, k < w.heap.size → F k → B ≤ k) (hB : B ≤ w.heap.size) : Below B w w' :=
  ⟨h.os, h.tape, h.output, h.size, fun k hk => h.block k (by omega) fun hf => by have := hF k (by omega) hf; omega⟩
theorem drewN {F : Nat → Prop} {a w : World} (h : Only F a w) (n : Nat) : Only F a (w.drewN n) := ⟨h.os, h.tape, h.output, h.size, h.block⟩
theorem drew {F : Nat → Prop} {a w : World} (h : Only F a w) : Only F a w.drew := ⟨h.os, h.tape, h.output, h.size, h.block⟩
theorem alloc {F : Nat → Prop} {a w : World} (h : Only F a w) (o : Obj) : Only F a (w.alloc o) :=
  h.trans (of_none (F := F) ((Below.refl _ w).alloc (Nat.le_refl _) o)) fun _ _ x => x
theorem setCell {F : Nat → Prop} {a w : World} (h : Only F a w) {g i : Nat} (hg : g < a.heap.size → F g) (v : Value) : Only F a (w.setCell ⟨g, i, none⟩ v) :=
  h.trans (G := fun k => k = g) ⟨rfl, rfl, rfl, by simp [World.setCell], fun k _ hk => Below.heap_setCell _ _ _ _ hk⟩ fun k hk e => by subst e; exact hg hk
theorem setRow {F : Nat → Prop} {a w : World} (h : Only F a w) {g : Nat} (hg : g < a.heap.size → F g) (c : Array Value) : Only F a (w.setRow g c) :=
  h.trans (G := fun k => k = g) ⟨rfl, rfl, rfl, by simp [World.setRow], fun k _ hk => setRow_far w g k c hk⟩ fun k hk e => by subst e; exact hg hk
/-- behind an append or a make -/
theorem grown {F : Nat → Prop} {a w w' : World} {row : Option Nat} (h : Only F a w) (hg : w.grownBy w' row) (hr : ∀ k, k < a.heap.size → row = some k → F k) : Only F a w' :=
  h.trans (G := fun k => row = some k) ⟨hg.os, hg.tape, hg.output, hg.size, fun k hk hn => hg.block k hk fun e => hn e.symm⟩ hr
theorem cell {F : Nat → Prop} {w w' : World} (h : Only F w w') {p : Addr} (hp : p.block < w.heap.size) (hn : ¬ F p.block) : w'.cell? p = w.cell? p := World.cell?_of_block (w := w) (h.block p.block hp hn)
theorem frozen {F : Nat → Prop} {w w' : World} (h : Only F w w') {p : Addr} (hp : p.block < w.heap.size) (hn : ¬ F p.block) : w'.frozen? p = w.frozen? p := World.frozen?_of_block (w := w) (h.block p.block hp hn)
end Only
theorem rowV_only {F : Nat → Prop} {w w' : World} {g T : Nat} {l : List Value} (h : RowV w g T l) (ho : Only F w w') (hn : ¬ F g) : RowV w' g T l := (ho.block g (rowV_lt h) hn).trans h
/-- a row that the call owns stays, if its block is not of F -/
theorem ownsRow_only {F : Nat → Prop} {w w' : World} {B E size n : Nat} {v : Value} {xs : List Value} (h : w.ownsRow B E size v n xs) (ho : Only F w w') (hn : ∀ k, v.ownBlock = some k → ¬ F k) : w'.ownsRow B E size v n xs := by
  refine ⟨h.1, ?_⟩
  rcases h.2 with hv | ⟨g, cap, cur, rfl, hg, hh, r⟩
  · exact .inl hv
  · exact .inr ⟨g, cap, cur, rfl, hg, by rw [ho.block g (Array.getElem?_eq_some_iff.1 hh).1 (hn g rfl)]; exact hh, r⟩
theorem readsS_only {F : Nat → Prop} {w w' : World} {a : Option Addr} {l : List ByteArray} (h : ReadsS w a l) (ho : Only F w w') (hn : ∀ b, a = some b → ¬ F b.block) : ReadsS w' a l := by
  intro i hi
  obtain ⟨b, off, h1, h2⟩ := h i hi
  exact ⟨b, off, h1, (ho.cell (World.block_lt_of_cell? w _ h2) (show ¬ F b from hn _ h1)).trans h2⟩
end Go.Proofs.YtpniegglbglbcaaDoor
