/-
  Layer 9: the program's node: its parts.
-/
import Derived.Test.YtjlglfhnnipjaaaNodFit
import Derived.Test.YtjlglfhnnipjaaaPairCut
import Derived.Test.YtjlglfhnnipjaaaNodCell
import Derived.Deep.LoopGhost
import Derived.Deep.RegionHeld3
import Derived.Deep.AppendLies
namespace Go.Proofs.Ytjlglfhnnipjaaa
open Go.RowKit
/-- a part: where its pairs lie, how much room there is, and they -/
abbrev Part := Option Addr × Nat × Nd.Prs
def nC (leaf : Bool) (x : Part) : List Value := [.bool leaf, .slice x.1 x.2.2.length x.2.1]
def partsC (leaf : Bool) (X : List Part) : List Value := X.flatMap (nC leaf)
theorem partsC_snoc (leaf : Bool) (X : List Part) (x : Part) : partsC leaf (X ++ [x]) = partsC leaf X ++ nC leaf x := by
  unfold partsC; rw [List.flatMap_append]; simp
theorem partsC_at (leaf : Bool) : ∀ (X : List Part) (i : Nat) (h : i < X.length), (partsC leaf X)[i * 2]? = some (.bool leaf) ∧ (partsC leaf X)[i * 2 + 1]? = some (.slice X[i].1 X[i].2.2.length X[i].2.1)
  | [], _, h => by simp at h
  | x :: X, 0, _ => ⟨rfl, rfl⟩
  | x :: X, i + 1, h => by
    have := partsC_at leaf X i (by simpa using h)
    show ((Value.bool leaf :: Value.slice x.1 x.2.2.length x.2.1 :: partsC leaf X))[(i + 1) * 2]? = _ ∧ ((Value.bool leaf :: Value.slice x.1 x.2.2.length x.2.1 :: partsC leaf X))[(i + 1) * 2 + 1]? = _
    rw [show (i + 1) * 2 = (i * 2) + 1 + 1 by omega, show (i * 2) + 1 + 1 + 1 = (i * 2 + 1) + 1 + 1 by omega]
    simp only [List.getElem?_cons_succ, List.getElem_cons_succ]
    exact this
theorem node_parts : (Try.prog.info? 24).map (fun i => (i.zero, i.size, i.bytes)) = some (some (.agg #[.bool false, .slice none 0 0]), 2, 32) := by kernel_rfl
/-- the value v is the parts X -/
def PartsAt (w : World) (B : Nat) (leaf : Bool) (v : Value) (X : List Part) : Prop :=
  w.ownsRow B 24 2 v X.length (partsC leaf X) ∧ ∀ x ∈ X, w.ownsRow B 33 2 (.slice x.1 x.2.2.length x.2.1) x.2.2.length (pairsC x.2.2)
theorem own_cell {w : World} {B E n g cap m : Nat} {xs : List Value} {j : Nat} {u : Value} (h : w.ownsRow B E 2 (.slice (some ⟨g, 0, none⟩) m cap) n xs) (hj : xs[j]? = some u) : w.cell? ⟨g, j, none⟩ = some u := by
  have hlt := (List.getElem?_eq_some_iff.1 hj).1
  rcases h.2 with ⟨e, _⟩ | ⟨g', cap', cur, e, _, hh, u1, u2, u3, u4⟩
  · cases e
  · cases e
    have hrow : RowV w g E cur.toList := hh
    rw [rowV_cell hrow]
    rw [← u4, List.getElem?_take] at hj
    split at hj
    · exact hj
    · cases hj
theorem owns_base {w : World} {B B' E k n : Nat} {v : Value} {xs : List Value} (h : w.ownsRow B E k v n xs) (hb : B' ≤ B) : w.ownsRow B' E k v n xs := by
  refine ⟨h.1, ?_⟩
  rcases h.2 with h2 | ⟨g, cap, cur, h1, h3, r⟩
  · exact .inl h2
  · exact .inr ⟨g, cap, cur, h1, Nat.le_trans hb h3, r⟩
theorem owns_apart {w : World} {B B' n m E E' : Nat} {v u : Value} {xs ys : List Value} (hE : E ≠ E') (h1 : w.ownsRow B E 2 v n xs) (h2 : w.ownsRow B' E' 2 u m ys) : ∀ k, u.ownBlock = some k → ¬ v.ownBlock = some k := by
  intro k hu hv
  rcases h1.2 with ⟨rfl, _⟩ | ⟨g, cap, cur, rfl, _, hh, _⟩
  · cases hv
  · rcases h2.2 with ⟨rfl, _⟩ | ⟨g', cap', cur', rfl, _, hh', _⟩
    · cases hu
    · have e1 : g = k := by simpa [Value.ownBlock] using hv
      have e2 : g' = k := by simpa [Value.ownBlock] using hu
      subst e1 e2
      rw [hh] at hh'
      simp at hh'
      exact hE hh'.2
theorem partsAt_step {w1 w3 w4 : World} {B : Nat} {leaf : Bool} {v v' : Value} {X : List Part} {a : Option Addr} {cap : Nat} {L : Nd.Prs} {o : Obj} (h : PartsAt w1 B leaf v X) (hb : Below w1.heap.size w1 w3) (hB : B ≤ w1.heap.size)
    (h3 : w3.ownsRow w1.heap.size 33 2 (.slice a L.length cap) L.length (pairsC L)) (h4 : w4.ownsRow B 24 2 v' (X.length + 1) (partsC leaf X ++ nC leaf (a, cap, L))) (hg : (w3.alloc o).grownBy w4 v.ownBlock) : PartsAt w4 B leaf v' (X ++ [(a, cap, L)]) := by
  refine ⟨by rw [List.length_append, partsC_snoc]; exact h4, fun x hx => ?_⟩
  have hv3 := World.ownsRow.alloc (ownsRow_only h.1 (Only.of_none (F := fun _ => False) hb) (fun _ _ h => h)) o
  have key : ∀ {u : Value} {m : Nat} {ys : List Value}, w3.ownsRow B 33 2 u m ys → w4.ownsRow B 33 2 u m ys := fun hu => by
    have hu2 := World.ownsRow.alloc hu o
    have hap := owns_apart (by decide) hv3 hu2
    exact ownsRow_only hu2 ((Only.refl (fun k => v.ownBlock = some k) _).grown hg (fun k _ e => e)) hap
  rcases List.mem_append.1 hx with hx | hx
  · exact key (ownsRow_only (h.2 x hx) (Only.of_none (F := fun _ => False) hb) (fun _ _ h => h))
  · simp at hx
    subst hx
    exact key (owns_base h3 hB)
theorem partsAt_base {w : World} {B B' : Nat} {leaf : Bool} {v : Value} {X : List Part} (h : PartsAt w B leaf v X) (hb : B' ≤ B) : PartsAt w B' leaf v X := ⟨owns_base h.1 hb, fun x hx => owns_base (h.2 x hx) hb⟩
theorem cell1_kept {w w' : World} {N i : Nat} {v : Value} (hb : Below w.heap.size w w') (h : w.cell? ⟨N, i, none⟩ = some v) : w'.cell? ⟨N, i, none⟩ = some v := (hb.cell (p := ⟨N, i, none⟩) (World.block_lt_of_cell? _ _ h)).trans h
theorem cell1_grown {w w' : World} {N i : Nat} {v a : Value} (hg : w.grownBy w' v.ownBlock) (hv : ∀ j, v.ownBlock = some j → N < j) (h : w.cell? ⟨N, i, none⟩ = some a) : w'.cell? ⟨N, i, none⟩ = some a :=
  (hg.cell_far ⟨N, i, none⟩ (World.block_lt_of_cell? _ _ h) (fun e => by have := hv N e.symm; omega)).trans h
theorem partsAt_below {w w' : World} {B : Nat} {leaf : Bool} {v : Value} {X : List Part} (h : PartsAt w B leaf v X) (hb : Below w.heap.size w w') : PartsAt w' B leaf v X :=
  ⟨ownsRow_only h.1 (Only.of_none (F := fun _ => False) hb) (fun _ _ h => h), fun x hx => ownsRow_only (h.2 x hx) (Only.of_none (F := fun _ => False) hb) (fun _ _ h => h)⟩
/-- what is answered as a node's parts -/
def PartsPost (leaf : Bool) (L : Nd.Prs) (w : World) (e : Ending) (w' : World) : Prop := ∃ v X, e = .returned v ∧ PartsAt w' w.heap.size leaf v X ∧ (if Nd.right ⟨leaf, L⟩ then Nd.PartsOf leaf L (X.map (·.2.2)) else X = []) ∧ Below w.heap.size w w'
section
variable {w : World}
set_option maxRecDepth 100000 in
set_option maxHeartbeats 6400000 in
theorem parts9_any (leaf : Bool) (a : Option Addr) (L : Nd.Prs) (c : Nat) (w : World) (hr : ReadsP w a L) (hL : L.length ≤ 1000) (hc : L.length ≤ c) :
    Calls Try.prog 22 #[nodV leaf a L.length c] w (PartsPost leaf L w) := by
  have hb : Below w.heap.size w (w.alloc (.cells #[.bool leaf, .slice a L.length c] 24)) := (Below.refl w.heap.size w).alloc (Nat.le_refl _) _
  have hrow := rowV_new w 24 (nodC leaf a L.length c)
  have r0 := rowV_cell hrow 0
  have r1 := rowV_cell hrow 1
  simp only [List.getElem?_cons_zero, List.getElem?_cons_succ] at r0 r1
  have cR := right9_any leaf a L c (w.alloc (.cells #[.bool leaf, .slice a L.length c] 24)) (readsP_below hr hb) hL
  by_cases hri : Nd.right ⟨leaf, L⟩
  · obtain ⟨i0, hi, hz0, hz1, hz2⟩ := info_parts node_parts
    have HI := Lib.hid (And.intro hi (And.intro hz0 (And.intro hz1 hz2)))
    clear hi hz0 hz1 hz2
    rw [decide_eq_true hri] at cR
    obtain ⟨hne, hfit, hris⟩ := hri
    have hpost : ∀ v X w', PartsAt w' w.heap.size leaf v X → Nd.PartsOf leaf L (X.map (·.2.2)) → Below w.heap.size w w' → PartsPost leaf L w (.returned v) w' := fun v X w' h1 h2 h3 => ⟨v, X, rfl, h1, by rw [if_pos ⟨hne, hfit, hris⟩]; exact h2, h3⟩
    have hfit : ∀ x ∈ L, Nd.fits leaf x := hfit
    have H := Lib.hid (And.intro hr (And.intro hb (And.intro hrow (And.intro cR (And.intro hfit hpost)))))
    clear hr hb hrow cR hfit hpost hne hris
    go_enter Try.func22, Try.ntmps22
    go_wp2_with fail
    refine H.out.2.2.2.1.mono ?_
    rintro e w1 ⟨rfl, hb1⟩
    have hrow1 := rowV_below H.out.2.2.1 hb1 (rowV_lt H.out.2.2.1)
    have hb01 : Below w.heap.size w w1 := H.out.2.1.trans (hb1.mono H.out.2.1.size)
    have hr1 := readsP_below H.out.1 hb01
    obtain ⟨n0, n1, _, _⟩ := nod_cells hrow1
    generalize hN : w.heap.size = N at *
    have H1 := Lib.hid (And.intro hrow1 (And.intro hb01 hr1))
    clear hb1 hrow1 hb01 hr1 r0 r1
    go_wp2_with fail
    go_loopg [3, 4] L.length (fun gh pv lv wr => ∃ (R : Nd.Prs) (ad : Option Addr) (cp : Nat) (X : List Part), gh = R.length ∧ lv = .slice ad R.length cp ∧ R.length ≤ cp ∧ X.length + R.length ≤ L.length ∧ Hid (ReadsP w1 ad R ∧ (∀ x ∈ R, Nd.fits leaf x) ∧ Below w1.heap.size w1 wr) ∧ Hid (∀ P, Nd.PartsOf leaf R P → Nd.PartsOf leaf L (X.map (·.2.2) ++ P)) ∧ Hid (PartsAt wr w1.heap.size leaf pv X))
    case atStart => exact ⟨L, a, c, [], rfl, rfl, hc, by simp, Lib.hid ⟨H1.out.2.2, H.out.2.2.2.2.1, Below.refl _ _⟩, Lib.hid (fun P h => h), Lib.hid ⟨World.ownsRow_nil _ _ _ _, fun _ h => by simp at h⟩⟩
    case round =>
      obtain ⟨R, ad, cp, X, rfl, rfl, hcp, hXR, HR, HP, HX⟩ := hrel
      by_cases hR0 : 0 < R.length
      · have hRne : R ≠ [] := List.length_pos_iff.1 hR0
        have hfp := Nd.fit_pos hRne HR.out.2.1
        have hfl := Nd.fit_le leaf R
        have hrN := rowV_below H1.out.1 HR.out.2.2 (rowV_lt H1.out.1)
        have cF := fun wx (hx : Below wr.heap.size wr wx) => fitting9_any leaf ad R cp wx (readsP_below (readsP_below HR.out.1 HR.out.2.2) hx) (by omega) (fun x hx => by have := Nd.fits_small (HR.out.2.1 x hx); omega)
        have hpart : ∀ P, Nd.PartsOf leaf (R.drop (Nd.fit leaf R)) P → Nd.PartsOf leaf R (R.take (Nd.fit leaf R) :: P) := fun P h => Nd.PartsOf.cons hRne h
        obtain ⟨m0, _, _, _⟩ := nod_cells hrN
        generalize hn : Nd.fit leaf R = n at *
        have hd : decide (0 < (R.length : Int)) = true := decide_eq_true (by omega)
        have HF := Lib.hid (And.intro hrN (And.intro cF hpart))
        clear hrN cF hpart hRne hn
        go_wp2_with fail
        refine (HF.out.2.1 _ (Below.refl _ _)).mono ?_
        rintro e w2 ⟨rfl, hb2⟩
        have hrN2 := rowV_below HF.out.1 hb2 (rowV_lt HF.out.1)
        have hr2 := readsP_below (readsP_below HR.out.1 HR.out.2.2) hb2
        have hX2 := partsAt_below HX.out hb2
        have hb12 := HR.out.2.2.trans (hb2.mono HR.out.2.2.size)
        obtain ⟨e0, _, _, _⟩ := nod_cells hrN2
        have q1 := fun W => slice_front2 ad R.length cp n (by omega) W
        obtain ⟨ad2, had2⟩ : ∃ x : Option Addr, x = (if cp = n then ad else ad.map (·.add (n * 2))) := ⟨_, rfl⟩
        have q2 : ∀ W, (Instr.slice 22 (.slice ad R.length cp) (some (.int .i64 (n : Int))) none none).run Try.prog W = .ok (.slice ad2 (R.length - n) (cp - n)) W := fun W => by rw [had2]; exact slice_from2 ad R.length cp n hfl W
        have HA := Lib.hid had2
        clear had2
        have htl : (R.take n).length = n := by rw [List.length_take, Nat.min_eq_left hfl]
        have cC : ∀ wx, Below w2.heap.size w2 wx → Calls Try.prog 42 #[.slice ad n cp] wx fun e w' => ∃ g cap, e = .returned (.slice (some ⟨g, 0, none⟩) n cap) ∧ w'.ownsRow wx.heap.size 33 2 (.slice (some ⟨g, 0, none⟩) n cap) n (pairsC (R.take n)) ∧ Below wx.heap.size wx w' := fun wx hx => by
          have h := clone9_any ad cp (R.take n) wx (by omega) (readsP_below (readsP_take hr2 n) hx) (by omega)
          unfold ClonedP at h
          rw [htl] at h
          exact h
        have hN1 : N < w1.heap.size := rowV_lt H1.out.1
        have hvj := fun j (hj : u3.ownBlock = some j) => show N < j by have := (World.ownsRow.lt hX2.1 j hj).1; omega
        have hB2 : w1.heap.size ≤ w2.heap.size := hb12.size
        have H2 := Lib.hid (And.intro hrN2 (And.intro hr2 (And.intro hX2 (And.intro hb12 (And.intro cC htl)))))
        have HV := Lib.hid hvj
        clear hb2 hrN2 hr2 hX2 hb12 cC m0 htl hvj
        go_wp2_with fail
        go_region_held3 (fun wx => wx.cell? ⟨N, 0, none⟩ = some (.bool leaf))
          (first
            | exact e0
            | exact hd3
            | exact cell1_kept ((Below.refl _ _).alloc (Nat.le_refl _) _) hd3
            | exact hd4)
          (first
            | (go_at_call 42; refine (H2.out.2.2.2.2.1 _ (Below.refl _ _).drew).mono ?_; rintro e w3 ⟨g, cap, rfl, ho3, hb3'⟩; have hb3 : Below w2.heap.size w2 w3 := (Below.refl _ _).drew.trans (hb3'.mono (Nat.le_refl _)); clear hb3'; have hd3 := cell1_kept hb3 e0; have hO3 := ownsRow_only H2.out.2.2.1.1 (Only.of_none (F := fun _ => False) hb3) (fun _ _ h => h); have hz3 := hb3.size)
            | (refine step_append_lies _ (by rfl) _ _ _ (by rfl) w1.heap.size 24 i0 _ 2 32 Try.underlying47 HI.out.1 HI.out.2.1 HI.out.2.2.1 HI.out.2.2.2 rfl (by omega) u3 X.length (partsC leaf X) (by rfl) (World.ownsRow.alloc hO3 (.cells #[.bool leaf, .slice (some ⟨g, 0, none⟩) n cap] 24)) ⟨w3.heap.size, 0, none⟩ 1 1 [.bool leaf, .slice (some ⟨g, 0, none⟩) n cap] (by rfl) (by rfl) (World.news_of_block (cs := #[.bool leaf, .slice (some ⟨g, 0, none⟩) n cap]) (t := 24) (fr := (0, 0)) (heap_alloc_new w3 _)) (by intro u hu; simp at hu; rcases hu with rfl | rfl <;> rfl) (by omega) (by unfold maxLen; omega) (by omega) (by rw [World.size_alloc]; omega) (w3.heap.size + 1) (by rw [World.size_alloc]) ?_; intro gg cap2 w4 hown4 hgrow hat hlt4; have hd4 := cell1_grown hgrow HV.out (cell1_kept ((Below.refl _ _).alloc (Nat.le_refl _) _) hd3)))
        have htl := H2.out.2.2.2.2.2
        have hstep : PartsAt w4 w1.heap.size leaf (.slice (some ⟨gg, 0, none⟩) (X.length + 1) cap2) (X ++ [(some ⟨g, 0, none⟩, cap, R.take n)]) :=
          partsAt_step H2.out.2.2.1 hb3 hB2 (by rw [htl]; exact ho3) (by unfold nC; rw [htl]; exact hown4) hgrow
        have hb4 : Below w1.heap.size w1 w4 := ((H2.out.2.2.2.1.trans (hb3.mono hB2)).alloc (by omega) (.cells #[.bool leaf, .slice (some ⟨g, 0, none⟩) n cap] 24)).grown hgrow (by rw [World.size_alloc]; omega) (fun k hk => (World.ownsRow.lt H2.out.2.2.1.1 k hk).1)
        have hrd := readsP_from HR.out.1 hfl hcp
        rw [← HA.out] at hrd
        have hparts : ∀ P, Nd.PartsOf leaf (R.drop n) P → Nd.PartsOf leaf L ((X ++ [((some ⟨g, 0, none⟩ : Option Addr), cap, R.take n)]).map (·.2.2) ++ P) := fun P h => by
          have := HP.out _ (HF.out.2.2 P h)
          rw [List.map_append, List.append_assoc]
          exact this
        have K := Lib.hid (And.intro hstep (And.intro hb4 (And.intro hrd hparts)))
        have hdl : (R.drop n).length = R.length - n := List.length_drop
        clear hstep hb4 hrd hparts hown4 hgrow hat hlt4 hd4 hd3 hO3 ho3 hb3 hz3 htl
        go_wp2_with fail
        go_roundg (R.drop n).length
        case measure => omega
        case rel => exact ⟨R.drop n, ad2, cp - n, X ++ [((some ⟨g, 0, none⟩ : Option Addr), cap, R.take n)], rfl, by rw [hdl], by omega, by rw [List.length_append, List.length_singleton]; omega, Lib.hid ⟨K.out.2.2.1, fun x hx => HR.out.2.1 x (List.mem_of_mem_drop hx), K.out.2.1⟩, Lib.hid K.out.2.2.2, Lib.hid K.out.1⟩
      · have hR : R = [] := List.eq_nil_of_length_eq_zero (by omega)
        have hd : decide (0 < (R.length : Int)) = false := decide_eq_false (by omega)
        subst hR
        have hp := HP.out [] .nil
        rw [List.append_nil] at hp
        have HQ := Lib.hid (And.intro hp (H1.out.2.1.trans (HR.out.2.2.mono (by have := H1.out.2.1.size; omega))))
        clear hp
        go_wp2_with fail
        go_ret
        exact H.out.2.2.2.2.2 _ X _ (partsAt_base HX.out (Nat.le_of_lt (rowV_lt H1.out.1))) HQ.out.1 HQ.out.2
  · rw [decide_eq_false hri] at cR
    have H := Lib.hid (And.intro cR hb)
    clear hr hb hrow cR r0 r1
    go_enter Try.func22, Try.ntmps22
    go_wp2_with fail
    refine H.out.1.mono ?_
    rintro e w1 ⟨rfl, hb1⟩
    have H1 := Lib.hid (H.out.2.trans (hb1.mono H.out.2.size))
    clear hb1
    go_wp2_with fail
    go_ret
    exact ⟨_, [], rfl, ⟨World.ownsRow_nil _ _ _ _, fun _ h => by simp at h⟩, by rw [if_neg hri], H1.out⟩
end
end Go.Proofs.Ytjlglfhnnipjaaa
