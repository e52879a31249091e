/-
  Layer 15, the program's: the kinds of columns by their names, made.
-/
import Derived.Test.YtmkckbidfpinfaaDoorZTypBack
namespace Go.Proofs.YtmkckbidfpinfaaDoor
open Go.RowKit Go.Shelf
open Sx (X)
attribute [local go_sem] Oper.semAt_some
/-- of what was handed out from the last one on -/
abbrev colsR (l : List ColA) : List Ty.Col := (l.map fun y => colK y.1.2).reverse
theorem colsR_snoc (l : List ColA) (y : ColA) : colsR (l ++ [y]) = colK y.1.2 :: colsR l := by
  unfold colsR
  rw [List.map_append, List.reverse_append]; rfl
theorem survR_mapK {B T b n : Nat} {f : ByteArray → Option Int} (hb : b < B) : SurvR B T (fun W => MapS kEnc kLit W b n f) := fun _ _ _ hJ hg hr =>
  mapS_block hJ (hg.block b (mapS_lt hJ) fun e => by have := (hr b e.symm).1; omega)
/-- what scopeOf tells -/
def ScopeP (cs : List Ty.Col) (w : World) (e : Ending) (w' : World) : Prop := ∃ mb mn, e = .returned (.map (some mb)) ∧ w.heap.size ≤ mb ∧ ScopeS w' mb mn cs ∧ Below w.heap.size w w'
set_option maxRecDepth 100000 in
set_option maxHeartbeats 12800000 in
theorem scopeOf15_any (L : List ColV) (al : Option Addr) (cap : Nat) (hL : L.length ≤ 100000) (hN : ∀ c ∈ L, c.name.size ≤ 1000000) (w : World) (hC : ReadsC w al L) :
    Calls Tryd.prog 34 #[.slice al L.length cap] w (ScopeP (L.map colK) w) := by
  have HC := Lib.hid fun wx => back15_call al L.length cap wx
  have hmm := @run_makeMap Tryd.prog
  have hm : ∀ b off, al = some ⟨b, off, none⟩ → L ≠ [] → b < w.heap.size := fun b off e hne => by
    have hl : 0 < L.length := List.length_pos_iff.2 hne
    obtain ⟨b', off', e', h0, _⟩ := hC 0 hl
    rw [e] at e'
    cases e'
    exact World.block_lt_of_cell? _ _ h0
  have HM := Lib.hid hm
  have HCC := Lib.hid hC
  clear hm hC
  generalize hNN : L.length = NL at *
  refine (callsIn_wide (n := 8)).1 ?_
  refine callsIn_of_wp_marks Tryd.func34 rfl trivial ?_ rfl
  simp only [Tryd.ntmps34, List.size_toArray, List.length_cons, List.length_nil, Nat.reduceAdd, Nat.reduceSub, Array.replicate_succ, Array.replicate_zero, List.push_toArray, List.append_toArray, List.nil_append, List.cons_append]
  gi_wp2_with (refine ⟨trivial, ?_⟩; gi_at_call 49; refine (callsIn_wide.2 (HC.out _)).mono ?_; rintro e w1 ⟨rfl, rfl⟩)
  obtain ⟨W3, hW3⟩ : ∃ W3, (((w.alloc (.map #[] 0)).alloc (.cells #[.map (some w.heap.size)] 63)).alloc (.cells #[.slice al NL cap] 22)) = W3 := ⟨_, rfl⟩
  have hB3 : Below w.heap.size w W3 := by
    rw [← hW3]
    exact (((Below.refl w.heap.size w).alloc (Nat.le_refl _) _).alloc (by simp) _).alloc (by simp; omega) _
  have hs3 : W3.heap.size = w.heap.size + 3 := by rw [← hW3]; simp
  have hm0 : MapS kEnc kLit W3 w.heap.size 0 (Ty.look []) := by
    rw [← hW3]
    have h1 := mapS_new (enc := kEnc) (lit := kLit) (f := Ty.look []) w (fun _ => rfl)
    exact mapS_below (mapS_below h1 ((Below.refl _ _).alloc (Nat.le_refl _) _)) ((Below.refl _ _).alloc (Nat.le_refl _) _)
  have hr1 : RowV W3 (w.heap.size + 1) 63 [.map (some w.heap.size)] := by
    rw [← hW3]
    have := rowV_new (w.alloc (.map #[] 0)) 63 [.map (some w.heap.size)]
    rw [World.size_alloc] at this
    exact rowV_alloc this _
  have hr2 : RowV W3 (w.heap.size + 2) 22 [.slice al NL cap] := by
    rw [← hW3]
    have := rowV_new ((w.alloc (.map #[] 0)).alloc (.cells #[.map (some w.heap.size)] 63)) 22 [.slice al NL cap]
    rw [World.size_alloc, World.size_alloc] at this
    exact this
  have hC3 : ReadsC W3 al L := readsC_below HCC.out hB3
  rw [hW3]
  have hHands := back15_hands (n := 8 - 1) (by omega) (w0 := W3) (m := w.heap.size) (bx := w.heap.size + 2) (T := 63) (al := al) (L := L) (cap := cap) (by omega) (by rw [hNN]; exact hr2) hC3 hN HM.out (by omega)
  clear hC3 hr2
  generalize hWN : w.heap.size = N at *
  obtain ⟨I, eI⟩ : ∃ I : List ColA → World → Prop, I = fun pre V => ∃ mn : Nat, mn ≤ pre.length ∧ (RowV V (N + 1) 63 [.map (some N)] ∧ MapS kEnc kLit V N mn (Ty.look (colsR pre))) ∧ Below N w V := ⟨_, rfl⟩
  obtain ⟨Ix, eIx⟩ : ∃ I : List ColA → World → Prop, I = fun _ _ => False := ⟨_, rfl⟩
  replace eI := Lib.hid eI
  replace eIx := Lib.hid eIx
  refine wpIn_handsR (n := 8) (gf := 64) (lb := #[.pointer (some ⟨N + 1 + 1, 0, none⟩)]) rfl (enters_of Tryd.func64 (by kernel_rfl) rfl)
    hHands (Below.refl _ _) (fun _ => rfl) kpB_t
    (fun V o o' h1 h2 => kpB_put o' (by omega) (by omega))
    I Ix (fun s => by rw [eI.out]; exact survR_ex fun p => survR_and (survR_const _) (survR_and (survR_and (survR_row (by omega)) (survR_mapK (by omega))) (survR_below (by omega) (by omega))))
    (fun s => by rw [eIx.out]; exact survR_const _)
    (by rw [eI.out]; exact ⟨0, Nat.le_refl _, ⟨hr1, hm0⟩, hB3⟩) ?round ?done ?stop
  case round =>
    rintro pre ⟨⟨k, c⟩, hcn⟩ V hI hlen hszV hnc
    rw [eI.out] at hI
    obtain ⟨mn, hmn, ⟨hrm, hmap⟩, hB⟩ := hI
    dsimp only [encB, colV]
    have hnr : RowV (V.alloc (.cells #[.string c.name, .int .i64 c.kind, .slice c.oa c.on c.oc] 49)) V.heap.size 49 [.string c.name, .int .i64 c.kind, .slice c.oa c.on c.oc] := rowV_new V _ [_, _, _]
    have hnb : Below V.heap.size V (V.alloc (.cells #[.string c.name, .int .i64 c.kind, .slice c.oa c.on c.oc] 49)) := (Below.refl _ _).alloc (Nat.le_refl _) _
    have hI1 : I pre (V.alloc (.cells #[.string c.name, .int .i64 c.kind, .slice c.oa c.on c.oc] 49)) := by
      rw [eI.out]
      exact ⟨mn, hmn, ⟨rowV_alloc hrm _, mapS_below hmap hnb⟩, hB.alloc (by have := hB.size; omega) _⟩
    clear hrm hmap hB hmn
    gi_wp2
    refine ⟨⟨hnb.block _ (by omega), hnb.block _ (by omega)⟩, kpB_below hnb, fun W2 ho2 hI2 hnc2 => ?_⟩
    have hr5 := rowV_only hnr ho2 (by omega)
    have hs2 := ho2.size
    rw [World.size_alloc] at hs2
    have hI3 := hI2 pre hI1
    rw [eI.out] at hI3
    obtain ⟨mn, hmn, ⟨hrm, hmap⟩, hB⟩ := hI3
    have k3 := rowV_cell hrm 0
    have d0 := rowV_cell hr5 0
    have d1 := rowV_cell hr5 1
    simp only [List.getElem?_cons_zero, List.getElem?_cons_succ] at k3 d0 d1
    obtain ⟨V4, hput, hmap4, ho4⟩ := mapS_put codedK Tryd.underlying63 hmap (by omega) c.name (by have : c.name.size ≤ 1000000 := hcn; unfold maxLen; omega) c.kind
    have H4 := Lib.hid (And.intro hrm (And.intro hmap4 (And.intro ho4 (And.intro hB hnc2))))
    clear hrm hmap hmap4 ho4 hB hI2 hI1 hnr ho2 hnc hnc2
    gi_wp2
    have ho4 := H4.out.2.2.1
    have hsB := H4.out.2.2.2.1.size
    have hs4 := ho4.size
    have hrec : Rec2 (N + 3) W2 V4 := by
      obtain ⟨⟨o1, ho1, _⟩, ⟨o2, ho2, _⟩⟩ := H4.out.2.2.2.2
      exact ⟨ho4.block _ (Array.getElem?_eq_some_iff.1 ho1).1 (by omega), ho4.block _ (Array.getElem?_eq_some_iff.1 ho2).1 (by omega)⟩
    refine ⟨hrec, kpB_only ho4 (fun k e => by omega), ?_⟩
    rw [eI.out]
    have hmp := H4.out.2.1
    rw [show (fun j => if j = c.name then some c.kind else Ty.look (colsR pre) j) = Ty.look (colsR (pre ++ [(⟨(k, c), hcn⟩ : ColA)])) by rw [colsR_snoc, Ty.look_cons]; rfl] at hmp
    refine ⟨_, ?_, ⟨rowV_only H4.out.1 ho4 (by omega), hmp⟩, H4.out.2.2.2.1.trans (ho4.below (fun k _ e => by omega) (by omega))⟩
    rw [List.length_append, List.length_singleton]
    split <;> omega
  case done =>
    rintro xs V hSx hI hK
    rw [eI.out] at hI
    obtain ⟨mn, hmn, ⟨hrm, hmap⟩, hB⟩ := hI
    have hcols : colsR xs = L.map colK := by
      have h1 : xs.map (fun x => x.1.2) = L.reverse := hSx
      have h2 : colsR xs = ((xs.map (fun x => x.1.2)).map colK).reverse := by
        unfold colsR
        rw [List.map_map]; rfl
      rw [h2, h1, List.map_reverse, List.reverse_reverse]
    rw [hcols] at hmap
    rw [hs3] at hK
    have cr := rowV_cell hrm 0
    simp only [List.getElem?_cons_zero] at cr
    have hsV := hB.size
    have HF := Lib.hid (And.intro hmap hB)
    clear hrm hmap hB hSx hcols
    gi_wp2
    refine ⟨by simp, .inl ⟨_, _, rfl, run_takeDeferred hK, ?_⟩⟩
    refine ⟨_, results_tmp (fn := Tryd.f34) (t := 2) rfl _ _ _, N, mn, rfl, ?_, ?_, ?_⟩
    · try rw [hWN]
      exact Nat.le_refl _
    · exact mapS_only HF.out.1 (putObj_only _ _ _) (by omega)
    · try rw [hWN]
      exact HF.out.2.trans ((putObj_only _ _ _).below (fun k _ hk => by omega) (by omega))
  case stop =>
    rintro pre V hSp hI hK
    rw [eIx.out] at hI
    exact hI.elim
end Go.Proofs.YtmkckbidfpinfaaDoor
