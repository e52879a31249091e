/-
  Layer 14, the program's: an op of two that begins; what must stand behind a part.
-/
import Derived.Test.YtekahmlppaabjaaGreatDoorZSynPr5
namespace Go.Proofs.YtekahmlppaabjaaGreatDoor
open Go.RowKit
open Sx (X toksOf isT)
/-- a list of one, in a row that was just made -/
theorem owL_one {α : Type} {f : α → List Value} {E k g B : Nat} {w : World} {y : α} (h : RowV w g E (f y)) (hB : B ≤ g) (hk : (f y).length = k) : OwL f E k w B (.slice (some ⟨g, 0, none⟩) 1 1) [y] := by
  have e : [y].flatMap f = f y := by simp
  refine ⟨by rw [e, hk]; simp, .inr ⟨g, 1, (f y).toArray, rfl, hB, h, Nat.le_refl _, by unfold maxLen; omega, by rw [List.size_toArray, hk, Nat.one_mul], ?_⟩⟩
  rw [e, List.length_singleton, Nat.one_mul, ← hk, List.take_length]
theorem flat_store {α : Type} {f : α → List Value} {k : Nat} (hf : ∀ x, (f x).length = k) {j : Nat} (hj : j < k) (u : Value) (y' : α) : ∀ (l : List α) (i : Nat) (hi : i < l.length), f y' = (f l[i]).set j u → (l.flatMap f).set (i * k + j) u = (l.set i y').flatMap f
  | [], i, hi, _ => by simp at hi
  | x :: l, 0, _, h => by
    rw [List.flatMap_cons, List.set_cons_zero, List.flatMap_cons, h, Nat.zero_mul, Nat.zero_add, List.set_append_left _ _ (by rw [hf]; exact hj)]; rfl
  | x :: l, i + 1, hi, h => by
    have ih := flat_store hf hj u y' l i (by simpa using hi) h
    rw [List.flatMap_cons, List.set_cons_succ, List.flatMap_cons, ← ih, List.set_append_right _ _ (by rw [hf, Nat.add_mul]; omega), hf]
    congr 2
    rw [Nat.add_mul]; omega
/-- a cell of an element of a list that the call owns, written -/
theorem owL_store {α : Type} {f : α → List Value} {E k B : Nat} {w : World} {v : Value} {l : List α} (hf : ∀ x, (f x).length = k) (h : OwL f E k w B v l) (i : Nat) (hi : i < l.length) {j : Nat} (hj : j < k) (u : Value) (y' : α) (hy : f y' = (f l[i]).set j u) :
    ∃ g c, v = .slice (some ⟨g, 0, none⟩) l.length c ∧ v.ownBlock = some g ∧ OwL f E k (w.setCell ⟨g, i * k + j, none⟩ u) B v (l.set i y') ∧ Only (fun k => k = g) w (w.setCell ⟨g, i * k + j, none⟩ u) := by
  rcases h.2 with ⟨_, h0⟩ | ⟨g, cap, cur, rfl, hb, hh, u1, u2, u3, u4⟩
  · omega
  · have hrow : RowV w g E cur.toList := hh
    have hr2 := rowV_stored hrow (i * k + j) u
    have hlt : i * k + j < l.length * k := by
      have := Nat.mul_le_mul_right k (show i + 1 ≤ l.length from hi)
      rw [Nat.add_mul, Nat.one_mul] at this; omega
    refine ⟨g, cap, rfl, rfl, ⟨?_, .inr ⟨g, cap, (cur.toList.set (i * k + j) u).toArray, by rw [List.length_set], hb, hr2, by rw [List.length_set]; exact u1, u2, ?_, ?_⟩⟩, Only.setCell (F := fun k => k = g) (Only.refl _ _) (fun _ => rfl) _⟩
    · rw [← flat_store hf hj u y' l i hi hy, List.length_set, List.length_set]
      exact h.1
    · rw [List.size_toArray, List.length_set, Array.length_toList]; exact u3
    · rw [List.length_set, ← flat_store hf hj u y' l i hi hy, List.take_set, u4]
theorem flat_len14 {α : Type} {f : α → List Value} {k : Nat} (hf : ∀ x, (f x).length = k) : ∀ l : List α, (l.flatMap f).length = l.length * k
  | [] => by simp
  | x :: l => by rw [List.flatMap_cons, List.length_append, hf, flat_len14 hf l, List.length_cons, Nat.add_mul]; omega
/-- without its last -/
theorem owL_pop {α : Type} {f : α → List Value} {E k B n c : Nat} {w : World} {a : Option Addr} {l : List α} {y : α} (hf : ∀ x, (f x).length = k) (h : OwL f E k w B (.slice a (n + 1) c) (l ++ [y])) (hn : l.length = n) : OwL f E k w B (.slice a n c) l := by
  rcases h.2 with ⟨e, _⟩ | ⟨g, cap, cur, e, hb, hh, u1, u2, u3, u4⟩
  · cases e
  · injection e with e1 e2 e3
    subst e1 e3
    have hl2 : (l ++ [y]).length = l.length + 1 := by simp
    have hlen : (l.flatMap f).length = l.length * k := flat_len14 hf l
    refine ⟨hlen, .inr ⟨g, c, cur, by rw [hn], hb, hh, by rw [hl2] at u1; omega, u2, u3, ?_⟩⟩
    rw [List.flatMap_append] at u4
    have := congrArg (List.take (l.length * k)) u4
    rw [List.take_take, hl2, Nat.min_eq_left (by rw [Nat.add_mul]; omega), List.take_append_of_le_length (by rw [hlen]; exact Nat.le_refl _), ← hlen, List.take_length] at this
    rw [← hlen]; exact this
section
variable {w : World} {R B : Nat} {S : Nat → Prop} {al : Option Addr} {cap : Nat} {L : List Lx.T} {p lev : Nat} {wa : Option Addr} {wc : Nat} {ws : List Wb} {y : X} {ay : Option Addr} {cy h : Nat}
/-- an op of two begins to wait, with the part that was read -/
theorem wb_two (H : RdP w R B S al cap L p lev wa wc ws y ay cy h) {g : Nat} (hg : g = w.heap.size) {w' : World} (hb : Below w.heap.size w w') (hr : RowV w' g 29 (xC y ay cy).toList) (op : Int) (h4 : 4 ≤ op) (h15 : op ≤ 15) (hl : lev ≤ 7) :
    WbOk w' B S ⟨op, lev, some ⟨g, 0, none⟩, 1, [(y, ay, cy)]⟩ ∧ ∀ b' ∈ ws, ∀ j, b'.v.ownBlock = some j → ¬ (Value.slice (some ⟨g, 0, none⟩) 1 1).ownBlock = some j := by
  have hB := H.hB
  refine ⟨⟨owL_one (f := fX) (y := (y, ay, cy)) hr (by omega) rfl, fun z hz => ?_, fun j e hj => ?_, .inr (.inr (.inr ⟨h4, h15⟩)), by simp, hl⟩, fun b' hm j e e2 => ?_⟩
  · have hz : z ∈ [(y, ay, cy)] := hz
    rw [List.mem_singleton] at hz
    subst hz
    exact xat_below H.part hb
  · have e2 : g = j := by simpa [Value.ownBlock] using e
    have := (H.hS j hj).2
    omega
  · have e3 : g = j := by simpa [Value.ownBlock] using e2
    have := (owL_lt (H.oks b' hm).1 j e).2
    omega
set_option maxRecDepth 100000 in
set_option maxHeartbeats 6400000 in
theorem between14_yes (H : RdP w R B S al cap L p lev wa wc ws y ay cy h) (hG : Glob w R) (hp : p ≤ L.length) (hL : L.length ≤ 1000000) (hn : ws.length ≤ p) (hr : ∀ t ∈ L, Lx.right t) (hl : lev ≤ 7) {op : Int} (ho : Sx.opOf (toksOf L p) = some op) (h1 : lev ≤ Sx.lvl op) (h2 : Sx.left op ≤ h) :
    Calls Tryz.prog 34 #[.pointer (some ⟨R, 0, none⟩)] w fun e w' => ∃ g, Stp w R B S al cap L (p + 1) (Sx.lvl op + 1) (ws ++ [⟨op, lev, some ⟨g, 0, none⟩, 1, [(y, ay, cy)]⟩]) y ay cy h true e w' := by
  have cW := word14_any (rdP_cells H).1 (rdP_cells H).2.1 H.toks hp
  have cT := fun wx hT => twoOf14_any (Sx.wd L p) wx hT
  rw [Sx.opW_wd hr, ho] at cT
  have hop := Sx.lvl_two (Sx.opOf_some ho).1
  have hmem := (Sx.opOf_some ho).1
  simp only [Sx.ops, List.mem_cons, List.not_mem_nil, or_false] at hmem
  obtain ⟨k, rfl⟩ : ∃ k : Nat, op = (k : Int) := ⟨op.toNat, by omega⟩
  have h4 : 4 ≤ k := by omega
  have h15 : k ≤ 15 := by omega
  have hleft : (if Sx.lvl (k : Int) = 3 then 4 else Sx.lvl (k : Int)) = Sx.left (k : Int) := rfl
  have cSd := fun wx => sides14_any (Sx.lvl (k : Int)) (by omega) wx
  rw [hleft] at cSd
  have hk5 := hop.2.1
  generalize Sx.wd L p = s at *
  generalize Sx.left (k : Int) = lf at *
  have hlv : ∀ wx, Twos wx → wx.cell? ⟨0, k * 2 + 1, none⟩ = some (.int .i64 (Sx.lvl (k : Int) : Nat)) := fun wx hT => (hT k h4 h15).2
  generalize Sx.lvl (k : Int) = lv at *
  have HH := Lib.hid (And.intro H (And.intro hG (And.intro cW (And.intro cT (And.intro cSd hlv)))))
  have t0 : ¬ ((lv : Nat) : Int) < ((lev : Nat) : Int) := by omega
  have t1 : ¬ ((h : Nat) : Int) < ((lf : Nat) : Int) := by omega
  have hk16 : k < 16 := by omega
  clear H hG cW cT cSd hlv hop ho hleft hmem
  go_enter Tryz.func34, Tryz.ntmps34
  go_wp2_with fail
  refine HH.out.2.2.1.mono ?_
  rintro e w1 ⟨rfl, hb1⟩
  have G1 := glob_below HH.out.2.1 hb1
  have HB := Lib.hid (And.intro hb1 (And.intro G1 (HH.out.2.2.2.1 w1 G1.1)))
  clear hb1 G1
  go_wp2_with fail
  refine HB.out.2.2.mono ?_
  rintro e w2 ⟨rfl, rfl⟩
  have cl := HH.out.2.2.2.2.2 _ HB.out.2.1.1
  go_wp2_with fail
  refine (HH.out.2.2.2.2.1 _).mono ?_
  rintro e w3 ⟨rfl, rfl⟩
  have H1 := rdP_below HH.out.1 HB.out.1
  obtain ⟨-, -, c2, -, c10⟩ := rdP_cells H1
  obtain ⟨z4, z5, z6, z7, z8, z9⟩ := rdP_xcells H1
  have hX := x_new y ay cy w3
  have hwb := wb_two H1 rfl hX.2.1 hX.1 (k : Int) (by omega) (by omega) hl
  have cB := begin14_any (rdP_below H1 hX.2.1) (by omega) (by omega) (k : Int) (some ⟨w3.heap.size, 0, none⟩) 1 [(y, ay, cy)] hwb.1 hwb.2 (lv + 1)
  have HX := Lib.hid (And.intro hX.2.1 cB)
  clear hX hwb cB H1
  go_wp2_with fail
  refine HX.out.2.mono ?_
  rintro e w4 ⟨rfl, wa', wc', H4, ho4⟩
  have hb3 := HB.out.1.trans (HX.out.1.mono HB.out.1.size)
  have HF := Lib.hid (And.intro H4 ((Only.of_none hb3).more ho4))
  clear H4 ho4 hb3
  go_wp2_with fail
  go_ret
  exact ⟨_, rfl, _, _, HF.out.1, HF.out.2⟩
set_option maxRecDepth 100000 in
set_option maxHeartbeats 6400000 in
theorem between14_no (H : RdP w R B S al cap L p lev wa wc ws y ay cy h) (hG : Glob w R) (hp : p ≤ L.length) (hr : ∀ t ∈ L, Lx.right t) (hN : Sx.NoOp (toksOf L) p lev h) :
    Calls Tryz.prog 34 #[.pointer (some ⟨R, 0, none⟩)] w fun e w' => e = .returned (.bool false) ∧ Below w.heap.size w w' := by
  have cW := word14_any (rdP_cells H).1 (rdP_cells H).2.1 H.toks hp
  have cT := fun wx hT => twoOf14_any (Sx.wd L p) wx hT
  rw [Sx.opW_wd hr] at cT
  cases ho : Sx.opOf (toksOf L p) with
  | none =>
    rw [ho] at cT
    generalize Sx.wd L p = s at *
    have HH := Lib.hid (And.intro hG (And.intro cW cT))
    clear H hG cW cT ho hN
    go_enter Tryz.func34, Tryz.ntmps34
    go_wp2_with fail
    refine HH.out.2.1.mono ?_
    rintro e w1 ⟨rfl, hb1⟩
    have HB := Lib.hid (And.intro hb1 (HH.out.2.2 w1 (glob_below HH.out.1 hb1).1))
    clear hb1
    go_wp2_with fail
    refine HB.out.2.mono ?_
    rintro e w2 ⟨rfl, rfl⟩
    go_wp2_with fail
    go_ret
    exact ⟨rfl, HB.out.1⟩
  | some op =>
    rw [ho] at cT
    have hno := hN op ho
    have hop := Sx.lvl_two (Sx.opOf_some ho).1
    have hmem := (Sx.opOf_some ho).1
    simp only [Sx.ops, List.mem_cons, List.not_mem_nil, or_false] at hmem
    obtain ⟨k, rfl⟩ : ∃ k : Nat, op = (k : Int) := ⟨op.toNat, by omega⟩
    have h4 : 4 ≤ k := by omega
    have h15 : k ≤ 15 := by omega
    have hleft : (if Sx.lvl (k : Int) = 3 then 4 else Sx.lvl (k : Int)) = Sx.left (k : Int) := rfl
    have cSd := fun wx => sides14_any (Sx.lvl (k : Int)) (by omega) wx
    rw [hleft] at cSd
    generalize Sx.wd L p = s at *
    generalize Sx.left (k : Int) = lf at *
    have hlv : ∀ wx, Twos wx → wx.cell? ⟨0, k * 2 + 1, none⟩ = some (.int .i64 (Sx.lvl (k : Int) : Nat)) := fun wx hT => (hT k h4 h15).2
    generalize Sx.lvl (k : Int) = lv at *
    have HH := Lib.hid (And.intro H (And.intro hG (And.intro cW (And.intro cT (And.intro cSd hlv)))))
    have hk16 : k < 16 := by omega
    clear H hG cW cT cSd hlv hop ho hleft hmem hN
    by_cases e1 : lv < lev
    · have t0 : ((lv : Nat) : Int) < ((lev : Nat) : Int) := by omega
      have d0 : decide (lv < lev) = true := decide_eq_true e1
      clear hno e1
      go_enter Tryz.func34, Tryz.ntmps34
      go_wp2_with fail
      refine HH.out.2.2.1.mono ?_
      rintro e w1 ⟨rfl, hb1⟩
      have G1 := glob_below HH.out.2.1 hb1
      have HB := Lib.hid (And.intro hb1 (And.intro G1 (HH.out.2.2.2.1 w1 G1.1)))
      clear hb1 G1
      go_wp2_with fail
      refine HB.out.2.2.mono ?_
      rintro e w2 ⟨rfl, rfl⟩
      have cl := HH.out.2.2.2.2.2 _ HB.out.2.1.1
      go_wp2_with fail
      refine (HH.out.2.2.2.2.1 _).mono ?_
      rintro e w3 ⟨rfl, rfl⟩
      obtain ⟨-, -, c2, -, c10⟩ := rdP_cells (rdP_below HH.out.1 HB.out.1)
      go_wp2_with fail
      go_ret
      exact ⟨rfl, HB.out.1⟩
    · have d0 : decide (lv < lev) = false := decide_eq_false e1
      have e2 : h < lf := by
        rcases Nat.lt_or_ge h lf with hh | hh
        · exact hh
        · exact absurd ⟨by omega, hh⟩ hno
      have d1 : decide (h < lf) = true := decide_eq_true e2
      have t0 : ¬ ((lv : Nat) : Int) < ((lev : Nat) : Int) := by omega
      have t1 : ((h : Nat) : Int) < ((lf : Nat) : Int) := by omega
      clear hno e1 e2
      go_enter Tryz.func34, Tryz.ntmps34
      go_wp2_with fail
      refine HH.out.2.2.1.mono ?_
      rintro e w1 ⟨rfl, hb1⟩
      have G1 := glob_below HH.out.2.1 hb1
      have HB := Lib.hid (And.intro hb1 (And.intro G1 (HH.out.2.2.2.1 w1 G1.1)))
      clear hb1 G1
      go_wp2_with fail
      refine HB.out.2.2.mono ?_
      rintro e w2 ⟨rfl, rfl⟩
      have cl := HH.out.2.2.2.2.2 _ HB.out.2.1.1
      go_wp2_with fail
      refine (HH.out.2.2.2.2.1 _).mono ?_
      rintro e w3 ⟨rfl, rfl⟩
      obtain ⟨-, -, c2, -, c10⟩ := rdP_cells (rdP_below HH.out.1 HB.out.1)
      go_wp2_with fail
      go_ret
      exact ⟨rfl, HB.out.1⟩
end
/-- the text that must stand behind a part -/
def askS (b : Sx.B) : ByteArray := match Sx.askW b with | some (_, s) => Lx.mk s | none => ⟨#[]⟩
set_option maxRecDepth 100000 in
set_option maxHeartbeats 6400000 in
theorem asked14_any (op : Int) (a : Option Addr) (n c : Nat) (lev : Int) (parts : List X) (hn : parts.length = n) (l : Nat) (w : World) : Calls Tryz.prog 35 #[.agg #[.int .i64 op, .slice a n c, .int .i64 lev]] w fun e w' => e = .returned (.string (askS ⟨op, parts, l⟩)) ∧ Below w.heap.size w w' := by
  have hb := (Below.refl w.heap.size w).alloc (Nat.le_refl _) (.cells #[.int .i64 op, .slice a n c, .int .i64 lev] 77)
  have HB := Lib.hid hb
  clear hb
  unfold askS Sx.askW
  simp only [hn]
  by_cases h0 : op = 0
  · subst h0
    rw [if_pos rfl]
    go_enter Tryz.func35, Tryz.ntmps35
    go_wp2_with fail
    go_ret
    exact ⟨rfl, HB.out⟩
  · rw [if_neg h0]
    have t0 : (op == 0) = false := by simpa using h0
    by_cases h16 : op = 16
    · subst h16
      by_cases n0 : n = 0
      · subst n0
        rw [if_pos ⟨rfl, rfl⟩]
        go_enter Tryz.func35, Tryz.ntmps35
        go_wp2_with fail
        go_ret
        exact ⟨rfl, HB.out⟩
      · rw [if_neg (fun e => n0 e.2)]
        have t1 : ((n : Int) == 0) = false := by simp; omega
        by_cases n1 : n = 1
        · subst n1
          rw [if_pos ⟨rfl, rfl⟩]
          go_enter Tryz.func35, Tryz.ntmps35
          go_wp2_with fail
          go_ret
          exact ⟨rfl, HB.out⟩
        · rw [if_neg (fun e => n1 e.2)]
          have t2 : ((n : Int) == 1) = false := by simp; omega
          go_enter Tryz.func35, Tryz.ntmps35
          go_wp2_with fail
          go_ret
          exact ⟨rfl, HB.out⟩
    · rw [if_neg (fun e => h16 e.1), if_neg (fun e => h16 e.1)]
      have t1 : (op == 16) = false := by simpa using h16
      go_enter Tryz.func35, Tryz.ntmps35
      go_wp2_with fail
      go_ret
      exact ⟨rfl, HB.out⟩
end Go.Proofs.YtekahmlppaabjaaGreatDoor
