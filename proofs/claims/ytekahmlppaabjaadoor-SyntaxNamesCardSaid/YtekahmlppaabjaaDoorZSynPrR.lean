/-
  Layer 14, the program's: Names.
-/
import Derived.Test.YtekahmlppaabjaaDoorZSynPrQ
import Derived.Test.YtekahmlppaabjaaDoorZSynPrI
import Derived.Test.YtekahmlppaabjaaDoorPk5
namespace Go.Proofs.YtekahmlppaabjaaDoor
open Go.RowKit Go.Shelf
open Sx (X)
attribute [local go_sem] Oper.semAt_some
abbrev fStr (s : ByteArray) : List Value := [.string s]
theorem str_parts : (Tryd.prog.info? 9).map (fun i => (i.zero, i.size, i.bytes)) = some (some (.string ⟨#[]⟩), 1, 16) := by kernel_rfl
theorem str_elem14 : ElemOk Tryd.prog 9 1 16 := elemOk_of str_parts rfl (by decide) (by decide)
theorem fStr_one (s : ByteArray) : ∀ u ∈ fStr s, u.oneCell' = true := by intro u hu; simp [fStr] at hu; subst hu; rfl
abbrev unitV (_ : Unit) : Value := .agg #[]
abbrev unitL (_ : Unit) : Lit := .int .i64 0
theorem codedU : CodedS unitV unitL := ⟨fun _ _ _ => rfl, fun _ _ _ => rfl⟩
theorem zeroU (w : World) : (zeroValue 74).run Tryd.prog w = .ok (unitV ()) w := by kernel_rfl
/-- the set of a list of names -/
def setS (l : List ByteArray) (s : ByteArray) : Option Unit := if Sx.memB s l = true then some () else none
theorem setS_in {l : List ByteArray} {s : ByteArray} (h : Sx.memB s l = true) : setS l s = some () := if_pos h
theorem setS_out {l : List ByteArray} {s : ByteArray} (h : ¬ Sx.memB s l = true) : setS l s = none := if_neg h
theorem setS_add (l : List ByteArray) (s : ByteArray) : setS (l ++ [s]) = fun j => if j = s then some () else setS l j := by
  funext j
  unfold setS
  have e : Sx.memB j (l ++ [s]) = (Sx.memB j l || decide (s = j)) := by unfold Sx.memB; rw [List.any_append]; simp
  rw [e]
  by_cases h : j = s
  · subst h; simp
  · have h2 : decide (s = j) = false := decide_eq_false fun x => h x.symm
    rw [if_neg h, h2, Bool.or_false]
theorem survR_map {B T b n : Nat} {f : ByteArray → Option Unit} (hb : b < B) : SurvR B T (fun W => MapS unitV unitL W b n f) := fun _ _ _ hJ hg hr =>
  mapS_block hJ (hg.block b (mapS_lt hJ) fun e => by have := (hr b e.symm).1; omega)
theorem addN_len (l : List ByteArray) : (Sx.addN [] l).length ≤ l.length := by
  obtain ⟨r, h1, h2⟩ := Sx.addN_sub l []
  rw [h1, List.nil_append]
  exact h2.length_le
theorem kpN_put {m B2 l : Nat} {W : World} {o : Obj} (o' : Obj) (hl : m ≤ l) (h2 : l < B2) (ho : W.heap[l]? = some o) (hc : o.isCells = false) : KpN m B2 W (W.putObj l o') := by
  have hp := putObj_only W l o'
  refine ⟨hp.size, fun j hj hlt => hp.block j hlt fun h => ?_, fun j cs fz hj => hp.block j (Array.getElem?_eq_some_iff.1 hj).1 fun h => ?_, fun j cs T fz hB hj hT => hp.block j (Array.getElem?_eq_some_iff.1 hj).1 fun h => ?_, fun j o2 hB hj hn => (hp.block j (Array.getElem?_eq_some_iff.1 hj).1 fun h => ?_).trans hj⟩
  · have e : j = l := h
    omega
  · have e : j = l := h
    subst e
    rw [ho] at hj
    injection hj with hj
    rw [hj] at hc
    cases hc
  · have e : j = l := h
    omega
  · have e : j = l := h
    omega
theorem kpN_below {m B2 : Nat} {W W' : World} (hb : Below W.heap.size W W') : KpN m B2 W W' :=
  ⟨hb.size, fun j _ hl => hb.block j hl, fun j _ _ hc => hb.block j (Array.getElem?_eq_some_iff.1 hc).1, fun j _ _ _ _ hc _ => hb.block j (Array.getElem?_eq_some_iff.1 hc).1, fun j _ _ ho _ => (hb.block j (Array.getElem?_eq_some_iff.1 ho).1).trans ho⟩
/-- a turn of blocks that are the caller's own, or hold texts -/
theorem kpN_only {F : Nat → Prop} {m B2 : Nat} {W W' : World} (ho : Only F W W') (hF : ∀ k, F k → m ≤ k ∧ (k < B2 ∧ (∀ cs fz, W.heap[k]? ≠ some (.cells cs 97 fz)) ∨ ∃ cs fz, W.heap[k]? = some (.cells cs 9 fz))) : KpN m B2 W W' := by
  refine ⟨ho.size, fun j hj hl => ho.block j hl fun h => ?_, fun j cs fz hc => ho.block j (Array.getElem?_eq_some_iff.1 hc).1 fun h => ?_, fun j cs T fz hB hc hT => ho.block j (Array.getElem?_eq_some_iff.1 hc).1 fun h => ?_, fun j o hB hoj hn => (ho.block j (Array.getElem?_eq_some_iff.1 hoj).1 fun h => ?_).trans hoj⟩
  · have := (hF j h).1; omega
  · rcases (hF j h).2 with h1 | ⟨cs', fz', h1⟩
    · exact h1.2 cs fz hc
    · rw [hc] at h1
      injection h1 with h1
      injection h1 with _ h1
      exact absurd h1 (by decide)
  · rcases (hF j h).2 with h1 | ⟨cs', fz', h1⟩
    · omega
    · rw [hc] at h1
      injection h1 with h1
      injection h1 with _ h1
      exact hT h1
  · rcases (hF j h).2 with h1 | ⟨cs', fz', h1⟩
    · omega
    · rw [hoj] at h1
      injection h1 with h1
      rw [h1] at hn
      cases hn
/-- a list of texts lies in cells of texts -/
theorem owStr_cells {W : World} {B : Nat} {v : Value} {l : List ByteArray} (h : OwL fStr 9 1 W B v l) : ∀ j, v.ownBlock = some j → B ≤ j ∧ j < W.heap.size ∧ ∃ cs, W.heap[j]? = some (.cells cs 9 (0, 0)) := by
  intro j e
  rcases h.2 with ⟨rfl, _⟩ | ⟨g, cap, cur, rfl, hb, hh, _⟩
  · cases e
  · have e2 : g = j := by simpa [Value.ownBlock] using e
    subst e2
    exact ⟨hb, (Array.getElem?_eq_some_iff.1 hh).1, cur, hh⟩
/-- what Names tells -/
def NamesP (mk : Prop) (x : X) (w : World) (e : Ending) (w' : World) : Prop :=
  ∃ (ao : Option Addr) (cp : Nat) (LL : List ByteArray), e = .returned (.slice ao LL.length cp) ∧ OwL fStr 9 1 w' w.heap.size (.slice ao LL.length cp) LL ∧ Below w.heap.size w w' ∧ ∃ pre rest, pre ++ rest = Sx.po x 1 ∧ LL = Sx.addN [] (Sx.nmL pre) ∧ (rest = [] ∨ mk)
set_option maxRecDepth 100000 in
set_option maxHeartbeats 12800000 in
theorem names14P_any {mk : Prop} (x : X) (a : Option Addr) (c : Nat) (w : World) (hX : XOk w w.heap.size mk x a) (hf : Sx.fine x) (hd : Sx.deep x ≤ 1000) (hsz : (Sx.po x 1).length ≤ 100000) :
    Calls Tryd.prog 15 #[xV x a c] w (NamesP mk x w) := by
  have cP := fun wx => names14_call x a c wx
  have HC := Lib.hid cP
  clear cP
  have hmm := @run_makeMap Tryd.prog
  have hB0 := Lib.hid (x_new x a c w).2.1
  have HL := Lib.hid fun (wr : World) (hb : Below (w.alloc (.cells (xC x a c) 29)).heap.size (w.alloc (.cells (xC x a c) 29)) wr) => x_look hb
  obtain ⟨⟨c0, c1, c2, c3, c4, c5⟩, _⟩ := HL.out _ (Below.refl _ _)
  simp only [Nat.zero_add] at c0 c1 c2 c3 c4 c5
  refine (callsIn_wide (n := 8)).1 ?_
  refine callsIn_of_wp_marks Tryd.func15 rfl trivial ?_ rfl
  simp only [Tryd.ntmps15, List.size_toArray, List.length_cons, List.length_nil, Nat.reduceAdd, Nat.reduceSub, Array.replicate_succ, Array.replicate_zero, List.push_toArray, List.append_toArray, List.nil_append, List.cons_append]
  gi_wp2_with (refine ⟨trivial, ?_⟩; gi_at_call 36; refine (callsIn_wide.2 (HC.out _)).mono ?_; rintro e w1 ⟨rfl, rfl⟩)
  obtain ⟨W5, hW5⟩ : ∃ W5, (((((w.alloc (.cells (xC x a c) 29)).alloc (.cells #[.slice none 0 0] 43)).alloc (.map #[] 0)).alloc (.cells #[.map (some (w.heap.size + 1 + 1))] 70)).alloc (.cells (xC x a c) 29)) = W5 := ⟨_, rfl⟩
  have hB5 : Below w.heap.size w W5 := by
    rw [← hW5]
    exact (((((Below.refl w.heap.size w).alloc (Nat.le_refl _) _).alloc (by simp) _).alloc (by simp; omega) _).alloc (by simp; omega) _).alloc (by simp; omega) _
  have hs5 : W5.heap.size = w.heap.size + 5 := by rw [← hW5]; simp
  have hr1 : RowV W5 (w.heap.size + 1) 43 [.slice none 0 0] := by
    rw [← hW5]
    have := rowV_new (w.alloc (.cells (xC x a c) 29)) 43 [.slice none 0 0]
    rw [World.size_alloc] at this
    exact rowV_alloc (rowV_alloc (rowV_alloc this _) _) _
  have hm2 : MapS unitV unitL W5 (w.heap.size + 2) 0 (setS []) := by
    rw [← hW5]
    have := mapS_new (enc := unitV) (lit := unitL) (f := setS []) ((w.alloc (.cells (xC x a c) 29)).alloc (.cells #[.slice none 0 0] 43)) (fun _ => rfl)
    rw [World.size_alloc, World.size_alloc] at this
    have h3 := mapS_below this ((Below.refl _ _).alloc (Nat.le_refl _) (.cells #[.map (some (w.heap.size + 1 + 1))] 70))
    exact mapS_below h3 ((Below.refl _ _).alloc (Nat.le_refl _) _)
  have hr3 : RowV W5 (w.heap.size + 3) 70 [.map (some (w.heap.size + 2))] := by
    rw [← hW5]
    have := rowV_new (((w.alloc (.cells (xC x a c) 29)).alloc (.cells #[.slice none 0 0] 43)).alloc (.map #[] 0)) 70 [.map (some (w.heap.size + 2))]
    rw [World.size_alloc, World.size_alloc, World.size_alloc] at this
    exact rowV_alloc this _
  have hr4 : RowV W5 (w.heap.size + 4) 29 (xC x a c).toList := by
    rw [← hW5]
    have := (x_new x a c ((((w.alloc (.cells (xC x a c) 29)).alloc (.cells #[.slice none 0 0] 43)).alloc (.map #[] 0)).alloc (.cells #[.map (some (w.heap.size + 1 + 1))] 70))).1
    rw [World.size_alloc, World.size_alloc, World.size_alloc, World.size_alloc] at this
    exact this
  rw [hW5]
  clear c0 c1 c2 c3 c4 c5 HL
  have hSide : Side w W5 w.heap.size (w.heap.size + 4) x a c := ⟨fun j hj => hB5.block j hj, hr4, by omega, Nat.le_refl _⟩
  generalize hN : w.heap.size = N at *
  obtain ⟨I, eI⟩ : ∃ I : List NmA → World → Prop, I = fun pre V => ∃ p : Option Addr × Nat, (RowV V (N + 1) 43 [.slice p.1 (Sx.addN [] (pre.map (·.1))).length p.2] ∧ OwL fStr 9 1 V (N + 7) (.slice p.1 (Sx.addN [] (pre.map (·.1))).length p.2) (Sx.addN [] (pre.map (·.1)))) ∧
      (RowV V (N + 3) 70 [.map (some (N + 2))] ∧ MapS unitV unitL V (N + 2) (Sx.addN [] (pre.map (·.1))).length (setS (Sx.addN [] (pre.map (·.1))))) ∧ Below N w V := ⟨_, rfl⟩
  obtain ⟨Ix, eIx⟩ : ∃ I : List NmA → World → Prop, I = fun _ _ => False := ⟨_, rfl⟩
  replace eI := Lib.hid eI
  replace eIx := Lib.hid eIx
  refine wpIn_handsR (n := 8) (gf := 61) (lb := #[.pointer (some ⟨N + 1 + 1 + 1 + 1, 0, none⟩)]) rfl (enters_of Tryd.func61 (by kernel_rfl) rfl)
    (names14_hands (n := 8 - 1) (by omega) (B2 := N + 7) (mk := mk) hX hf hd hSide (by omega) (by omega)) (Below.refl _ _) (fun _ => rfl) kpN_t
    (fun V o o' h1 h2 => ?kb)
    I Ix (fun s => by rw [eI.out]; exact survR_ex fun p => survR_and (survR_and (survR_row (by omega)) (survR_own (by decide))) (survR_and (survR_and (survR_row (by omega)) (survR_map (by omega))) (survR_below (by omega) (by omega))))
    (fun s => by rw [eIx.out]; exact survR_const _)
    (by rw [eI.out]; exact ⟨(none, 0), ⟨hr1, owL_nil _⟩, ⟨hr3, hm2⟩, hB5⟩) ?round ?done ?stop
  case kb => exact kpN_put o' (by omega) (by omega) h1 h2
  case round =>
    rintro pre ⟨s, hss⟩ V hI hlen hszV hnc
    have hLl := addN_len (pre.map (·.1))
    rw [List.length_map] at hLl
    have hsn : Sx.addN [] ((pre ++ [(⟨s, hss⟩ : NmA)]).map (·.1)) = Sx.add1 (Sx.addN [] (pre.map (·.1))) s := by
      rw [List.map_append]
      exact Sx.addN_end [] _ s
    have eI2 := eI
    have hIs : I (pre ++ [(⟨s, hss⟩ : NmA)]) = fun V => ∃ p : Option Addr × Nat, (RowV V (N + 1) 43 [.slice p.1 (Sx.add1 (Sx.addN [] (pre.map (·.1))) s).length p.2] ∧ OwL fStr 9 1 V (N + 7) (.slice p.1 (Sx.add1 (Sx.addN [] (pre.map (·.1))) s).length p.2) (Sx.add1 (Sx.addN [] (pre.map (·.1))) s)) ∧
      (RowV V (N + 3) 70 [.map (some (N + 2))] ∧ MapS unitV unitL V (N + 2) (Sx.add1 (Sx.addN [] (pre.map (·.1))) s).length (setS (Sx.add1 (Sx.addN [] (pre.map (·.1))) s))) ∧ Below N w V := by
      rw [eI.out, ← hsn]
    have hIp : I pre = fun V => ∃ p : Option Addr × Nat, (RowV V (N + 1) 43 [.slice p.1 (Sx.addN [] (pre.map (·.1))).length p.2] ∧ OwL fStr 9 1 V (N + 7) (.slice p.1 (Sx.addN [] (pre.map (·.1))).length p.2) (Sx.addN [] (pre.map (·.1)))) ∧
      (RowV V (N + 3) 70 [.map (some (N + 2))] ∧ MapS unitV unitL V (N + 2) (Sx.addN [] (pre.map (·.1))).length (setS (Sx.addN [] (pre.map (·.1))))) ∧ Below N w V := by rw [eI.out]
    dsimp only [encN]
    generalize Sx.addN [] (pre.map (·.1)) = LL at *
    have HIS := Lib.hid hIs
    have HIP := Lib.hid hIp
    clear hsn hIs hIp eI eI2
    gi_wp2
    refine ⟨⟨rfl, rfl⟩, kpN_below (Below.refl _ _), fun V2 ho2 hI2 hnc2 => ?_⟩
    have hI3 := hI2 pre hI
    rw [HIP.out] at hI3
    obtain ⟨⟨ao, cp⟩, ⟨hr, how⟩, ⟨hrm, hmap⟩, hB⟩ := hI3
    dsimp only at hr how
    have hs2' := ho2.size
    clear hI2 hI ho2
    have k1 := rowV_cell hr 0
    have k3 := rowV_cell hrm 0
    simp only [List.getElem?_cons_zero] at k1 k3
    have f1 := rowV_frozen hr 0
    have hlook := mapS_look codedU Tryd.underlying70 zeroU hmap s (by unfold maxLen; omega)
    have hnb : Below V2.heap.size V2 (V2.alloc (.cells #[] 74)) := (Below.refl _ _).alloc (Nat.le_refl _) _
    generalize hn : LL.length = n at *
    by_cases hin : Sx.memB s LL = true
    · have e1 : Sx.add1 LL s = LL := if_pos hin
      rw [setS_in hin] at hlook
      dsimp only [Option.isSome, Option.getD, unitV] at hlook
      rw [e1, hn] at HIS
      have H2 := Lib.hid (And.intro hr (And.intro how (And.intro hrm (And.intro hmap hB))))
      clear hr how hrm hmap hB hnc hnc2
      gi_wp2
      refine ⟨⟨hnb.block _ (by omega), hnb.block _ (by omega)⟩, kpN_below hnb, ?_⟩
      rw [HIS.out]
      exact ⟨(ao, cp), ⟨rowV_alloc H2.out.1 _, owL_below H2.out.2.1 hnb⟩, ⟨rowV_alloc H2.out.2.2.1 _, mapS_below H2.out.2.2.2.1 hnb⟩, H2.out.2.2.2.2.trans (hnb.mono (by have := H2.out.2.2.2.2.size; omega))⟩
    · have e1 : Sx.add1 LL s = LL ++ [s] := if_neg hin
      rw [setS_out hin] at hlook
      dsimp only [Option.isSome, Option.getD, unitV] at hlook
      have hl1 : (LL ++ [s]).length = n + 1 := by rw [List.length_append, hn]; rfl
      rw [e1, hl1] at HIS
      have HL1 := Lib.hid hl1
      clear hl1
      obtain ⟨V4, hput, hmap4, ho4⟩ := mapS_put codedU Tryd.underlying70 (mapS_below hmap hnb) (by omega) s (by unfold maxLen; omega) ()
      rw [setS_out hin, ← setS_add] at hmap4
      dsimp only [unitV] at hput
      have hr4 := rowV_only (rowV_alloc hr (.cells #[] 74)) ho4 (by omega)
      have how4 := owL_only (owL_below how hnb) ho4 (fun j e1 e2 => by have := (owStr_cells how j e1).1; omega)
      have hrm4 := rowV_only (rowV_alloc hrm (.cells #[] 74)) ho4 (by omega)
      have hB4 : Below N w V4 := (hB.trans (hnb.mono (by have := hB.size; omega))).trans (ho4.below (fun k _ e => by omega) (by have := hB.size; have := hnb.size; omega))
      have hs4 : V2.heap.size + 1 ≤ V4.heap.size := by have := ho4.size; rw [World.size_alloc] at this; exact this
      have k4 := rowV_cell hr4 0
      have f4 := rowV_frozen hr4 0
      simp only [List.getElem?_cons_zero] at k4
      have hVs : N + 7 ≤ V2.heap.size := by omega
      have kb3 := rowV_cell (rowV_alloc hrm (.cells #[] 74)) 0
      simp only [List.getElem?_cons_zero] at kb3
      have hnb5 : Below V4.heap.size V4 (V4.alloc (.cells #[.string s] 9)) := (Below.refl _ _).alloc (Nat.le_refl _) _
      have hr5 := rowV_alloc hr4 (.cells #[.string s] 9)
      have how5 := owL_below how4 hnb5
      have hnew : RowV (V4.alloc (.cells #[.string s] 9)) V4.heap.size 9 (fStr s) := rowV_new V4 _ [_]
      have hrec4 : Rec2 (N + 5) V2 V4 := by
        have hq : NC2 (N + 5) V2 := by first | exact hnc2 | (rw [hs5] at hnc2; exact hnc2)
        obtain ⟨⟨o1, ho1, hc1⟩, ⟨o2, ho2, hc2⟩⟩ := hq
        have l1 := (Array.getElem?_eq_some_iff.1 ho1).1
        have l2 := (Array.getElem?_eq_some_iff.1 ho2).1
        exact ⟨(ho4.block _ (by have := hnb.size; omega) (by omega)).trans (hnb.block _ l1), (ho4.block _ (by have := hnb.size; omega) (by omega)).trans (hnb.block _ l2)⟩
      have hkp4 : KpN N (N + 7) V2 V4 := kpN_t (kpN_below hnb) (kpN_only ho4 fun k e => ⟨by omega, .inl ⟨by omega, fun cs fz hc => by
        obtain ⟨es, cl, hm⟩ := mapS_is (mapS_below hmap hnb)
        rw [e, hm] at hc
        cases hc⟩⟩)
      have H4 := Lib.hid (And.intro hr5 (And.intro how5 (And.intro hnew (And.intro hrm4 (And.intro hmap4 (And.intro hB4 (And.intro hrec4 (And.intro hkp4 hnb5))))))))
      clear hr how hrm hmap hB hnc hnc2 hr4 how4 hrm4 hmap4 hB4 hr5 how5 hnew hrec4 hkp4 ho4
      gi_wp2_with (gi_at_builtin; refine wpListIn_append_one14 (f := fStr) (B := N + 7) str_elem14 rfl _ _ 43 rfl Tryd.underlying43 (.slice ao n cp) LL s rfl H4.out.2.1 V4.heap.size 1 rfl H4.out.2.2.1 rfl (fStr_one _) (by omega) (by rw [World.size_alloc]; omega) ?_; intro v' w7 ho7 hg7; obtain ⟨a7, c7, he7, -⟩ := owL_form ho7; subst he7; have hr7 := rowV_only H4.out.1 hg7 (fun e => by have := (owStr_cells H4.out.2.1 _ e).1; omega); have k7 := rowV_cell hr7 0; have f7 := rowV_frozen hr7 0; simp only [List.getElem?_cons_zero] at k7; have H7 := Lib.hid (And.intro ho7 (And.intro hg7 hr7)); clear ho7 hg7 hr7)
      have hs7 := H7.out.2.1.size
      rw [World.size_alloc] at hs7
      have hof : ∀ k, (Value.slice ao n cp).ownBlock = some k → N + 7 ≤ k ∧ k < V4.heap.size + 1 ∧ ∃ cs, (V4.alloc (.cells #[.string s] 9)).heap[k]? = some (.cells cs 9 (0, 0)) := fun k e => by
        have := owStr_cells H4.out.2.1 k e
        rw [World.size_alloc] at this
        exact this
      have ho8 : ∀ u, Only (fun k => k = N + 1) w7 (w7.setCell ⟨N + 1, 0, none⟩ u) := fun u => (Only.refl (fun k => k = N + 1) w7).setCell (g := N + 1) (i := 0) (fun _ => rfl) u
      have ho7 := H7.out.1
      rw [HL1.out] at ho7
      have r1 : Rec2 (N + 5) V2 (w7.setCell ⟨N + 1, 0, none⟩ (.slice a7 (n + 1) c7)) := by
        have hq := H4.out.2.2.2.2.2.2.1
        have hm1 : ∀ k, k = N + 5 ∨ k = N + 6 → (w7.setCell ⟨N + 1, 0, none⟩ (.slice a7 (n + 1) c7)).heap[k]? = V4.heap[k]? := fun k hk =>
          ((ho8 _).block k (by omega) (by omega)).trans ((H7.out.2.1.block k (by rw [World.size_alloc]; omega) fun e => by have := (hof k e).1; omega).trans (hnb5.block k (by omega)))
        exact ⟨(hm1 (N + 5) (.inl rfl)).trans hq.1, (hm1 (N + 6) (.inr rfl)).trans hq.2⟩
      have r2 : KpN N (N + 7) V2 (w7.setCell ⟨N + 1, 0, none⟩ (.slice a7 (n + 1) c7)) := by
        refine kpN_t H4.out.2.2.2.2.2.2.2.1 (kpN_t (kpN_below hnb5) (kpN_t (kpN_only H7.out.2.1 fun k e => ⟨by have := (hof k e).1; omega, .inr ?_⟩) (kpN_only (ho8 _) fun k e => ⟨by omega, .inl ⟨by omega, fun cs fz hc => ?_⟩⟩)))
        · obtain ⟨cs, h⟩ := (hof k e).2.2
          exact ⟨cs, _, h⟩
        · have h := H7.out.2.2
          unfold RowV at h
          rw [e, h] at hc
          injection hc with hc
          injection hc with _ hc
          exact absurd hc (by decide)
      have r3 : Below N w (w7.setCell ⟨N + 1, 0, none⟩ (.slice a7 (n + 1) c7)) := by
        have hb4 := H4.out.2.2.2.2.2.1
        have z4 := hb4.size
        have hb5 := hb4.trans (hnb5.mono (by omega))
        have z5 := hb5.size
        have hb7 := hb5.trans (H7.out.2.1.below (fun k _ e => by have := (hof k e).1; omega) (by omega))
        have z7 := hb7.size
        exact hb7.trans ((ho8 _).below (fun k _ e => by omega) (by omega))
      refine ⟨r1, r2, ?_⟩
      rw [HIS.out]
      refine ⟨(a7, c7), ⟨rowV_set15 H7.out.2.2 _, owL_only ho7 (ho8 _) fun j e1 e2 => by have := (owStr_cells ho7 j e1).1; omega⟩, ⟨?_, ?_⟩, r3⟩
      · exact rowV_only (rowV_only (rowV_alloc H4.out.2.2.2.1 _) H7.out.2.1 fun e => by have := (hof _ e).1; omega) (ho8 _) (by omega)
      · exact mapS_only (mapS_only (mapS_below H4.out.2.2.2.2.1 hnb5) H7.out.2.1 fun e => by have := (hof _ e).1; omega) (ho8 _) (by omega)
  case done =>
    rintro xs V hSx hI hK
    rw [eI.out] at hI
    obtain ⟨⟨ao, cp⟩, ⟨hr, how⟩, -, hB⟩ := hI
    dsimp only at hr how
    rw [hs5] at hK
    have cr := rowV_cell hr 0
    simp only [List.getElem?_cons_zero] at cr
    have hsV := hB.size
    obtain ⟨pp, rest, hp1, hp2, hp3⟩ := hSx
    rw [hp2] at hr how cr
    have HF := Lib.hid (And.intro how (And.intro hB (And.intro hp1 hp3)))
    clear hr how hp1 hp2 hp3
    have HE := Lib.hid (rfl : Sx.addN [] (Sx.nmL pp) = Sx.addN [] (Sx.nmL pp))
    generalize hLL : Sx.addN [] (Sx.nmL pp) = LL at *
    have HLL := Lib.hid hLL
    clear hLL HE
    gi_wp2
    refine ⟨by simp, .inl ⟨_, _, rfl, run_takeDeferred hK, ?_⟩⟩
    refine ⟨_, results_tmp (fn := Tryd.f15) (t := 2) rfl _ _ _, ao, cp, LL, rfl, ?_, ?_, pp, rest, HF.out.2.2.1, HLL.out.symm, HF.out.2.2.2⟩
    · try rw [hN]
      exact owL_base14 (owL_only HF.out.1 (putObj_only _ _ _) fun j e1 e2 => by have := (owStr_cells HF.out.1 j e1).1; omega) (by omega)
    · try rw [hN]
      exact HF.out.2.1.trans ((putObj_only _ _ _).below (fun k _ hk => by omega) (by omega))
  case stop =>
    rintro pre V hSp hI hK
    rw [eIx.out] at hI
    exact hI.elim
end Go.Proofs.YtekahmlppaabjaaDoor
