/-
  Layer 14's laws: an argument that is an expression, opened.
-/
import Derived.Test.YtmkckbidfpinfaaDoorPk5
import Derived.Test.YtmkckbidfpinfaaDoorPk6
namespace Go.Proofs.YtmkckbidfpinfaaDoor
open Go.ChangeShapes Go.WideShapes Go.RowKit
open Sx (X)
theorem lok_of {w : World} {m : Nat} {mk : Prop} : ∀ (l : List X) (b o : Nat), (∀ i (h : i < l.length), w.frozen? ⟨b, o + i * 6, none⟩ = false ∧ ∃ a c, Cells6 w b (o + i * 6) l[i] a c ∧ XOk w m mk l[i] a) → LOk w m mk l b o
  | [], _, _, _ => by rw [LOk]; trivial
  | x :: r, b, o, h => by
    rw [LOk]
    have h0 := h 0 (Nat.succ_pos _)
    simp only [Nat.zero_mul, Nat.add_zero, List.getElem_cons_zero] at h0
    refine ⟨h0.1, h0.2, lok_of r b (o + 6) fun i hi => ?_⟩
    have h1 := h (i + 1) (by simpa using hi)
    rw [show o + (i + 1) * 6 = o + 6 + i * 6 by omega] at h1
    exact h1
theorem okL_of : ∀ (l : List X), (∀ i (h : i < l.length), Sx.okX l[i]) → Sx.okL l
  | [], _ => by rw [Sx.okL]; trivial
  | x :: r, h => by
    rw [Sx.okL]
    exact ⟨h 0 (Nat.succ_pos _), okL_of r fun i hi => h (i + 1) (by simpa using hi)⟩
section
variable {H : Type} {enc : TypeId × Value → H} {w : World} {base : Nat} {spare : Nat → Bool} {held : Bool}
/-- what is known of an argument's places -/
def IceP (w : World) (ps : List MemPlace) : Prop := ∀ b off, MemPlace.cell b off ∈ ps → w.frozen? ⟨b, off, none⟩ = false
theorem take3 {l : List Value} {v : Vl.V} (e : (l.drop 1).take 3 = (valC v).toList) : l[1]? = some (.int .i64 v.kind) ∧ l[2]? = some (.int .i64 v.n) ∧ l[3]? = some (.string v.s) := by
  have g := fun (k : Nat) => congrArg (·[k]?) e
  have g0 := g 0
  have g1 := g 1
  have g2 := g 2
  simp at g0 g1 g2
  exact ⟨g0, g1, g2⟩
set_option maxRecDepth 100000 in
theorem x_frame : ∀ (fuel : Nat) (cs : List Value) (d : DataW H) (ps : List MemPlace), DataW.trod enc Tryd.prog w base spare held fuel 36 cs = some (d, ps) → IceP w ps → ∃ (x : X) (a : Option Addr) (c : Nat), cs = (xC x a c).toList ∧ XOk w w.heap.size True x a ∧ Sx.okX x := by
  intro fuel
  induction fuel using Nat.strongRecOn with
  | ind fuel ih =>
    intro cs d ps h hice
    have hC : Tryd.prog.cellsOf 36 = 6 := by kernel_rfl
    obtain ⟨ys, n, hfu, hx, hcl, hyl, hf⟩ := DataW.trod_struct Tryd.underlying36 h
    rw [hC] at hcl
    have hyl4 : ys.length = 4 := hyl
    have kO : Tryd.prog.cellsOf 31 = 1 := by kernel_rfl
    have kV : Tryd.prog.cellsOf 33 = 3 := by kernel_rfl
    have kS : Tryd.prog.cellsOf 9 = 1 := by kernel_rfl
    have kL : Tryd.prog.cellsOf 34 = 1 := by kernel_rfl
    have g0 : DataW.trod enc Tryd.prog w base spare held n 31 ((cs.drop 0).take (Tryd.prog.cellsOf 31)) = ys[0]? := hf 0 _ rfl
    have g1 : DataW.trod enc Tryd.prog w base spare held n 33 ((cs.drop 1).take (Tryd.prog.cellsOf 33)) = ys[1]? := hf 1 _ rfl
    have g2 : DataW.trod enc Tryd.prog w base spare held n 9 ((cs.drop 4).take (Tryd.prog.cellsOf 9)) = ys[2]? := hf 2 _ rfl
    have g3 : DataW.trod enc Tryd.prog w base spare held n 34 ((cs.drop 5).take (Tryd.prog.cellsOf 34)) = ys[3]? := hf 3 _ rfl
    rw [List.getElem?_eq_getElem (by omega)] at g0 g1 g2 g3
    rw [kO, one_cell12 (by omega)] at g0
    rw [kV] at g1
    rw [kS, one_cell12 (by omega)] at g2
    rw [kL, one_cell12 (by omega)] at g3
    obtain ⟨zo, e0, _, _⟩ := DataW.trod_int Tryd.underlying31 g0
    obtain ⟨zv, e1, hfit⟩ := val_frame g1
    obtain ⟨zs, e2, _, ws⟩ := DataW.trod_string Tryd.underlying9 g2
    simp only [List.cons.injEq, and_true] at e0 e2
    obtain ⟨v1, v2, v3⟩ := take3 e1
    have hps : ∀ p ∈ ys[3].2, p ∈ ps := fun p hp => by
      have e : ps = ys.flatMap (·.2) := congrArg Prod.snd hx
      rw [e, List.mem_flatMap]
      exact ⟨ys[3], List.getElem_mem _, hp⟩
    have fin : ∀ (l : List X) (a : Option Addr) (c : Nat), cs[5] = .slice a l.length c → XOk w w.heap.size True (.mk zo zv zs l) a → l.length ≤ maxLen → Sx.okL l → ∃ (x : X) (a : Option Addr) (c : Nat), cs = (xC x a c).toList ∧ XOk w w.heap.size True x a ∧ Sx.okX x := by
      intro l a c h5 hX hl hok
      refine ⟨.mk zo zv zs l, a, c, ?_, hX, by rw [Sx.okX]; exact ⟨⟨hfit.1, hfit.2.1⟩, hfit.2.2, ws, hl, hok⟩⟩
      obtain ⟨c0, c1, c2, c3, c4, c5, rfl⟩ : ∃ c0 c1 c2 c3 c4 c5, cs = [c0, c1, c2, c3, c4, c5] := by
        rcases cs with _ | ⟨c0, _ | ⟨c1, _ | ⟨c2, _ | ⟨c3, _ | ⟨c4, _ | ⟨c5, _ | ⟨c6, r⟩⟩⟩⟩⟩⟩⟩ <;> first | exact ⟨_, _, _, _, _, _, rfl⟩ | exact absurd hcl (by simp)
      simp at e0 e2 h5 v1 v2 v3
      rw [e0, e2, h5, v1, v2, v3]
      rfl
    rcases DataW.trod_slice Tryd.underlying34 g3 with ⟨hnil, _⟩ | ⟨ad, len, cap, elems, rest, m, hnm, hcs, hyx, _, hlc, hcm, hel, hi, _, _⟩
    · simp only [List.cons.injEq, and_true] at hnil
      exact fin [] none 0 hnil (by rw [XOk]; exact .inl rfl) (Nat.zero_le _) (by rw [Sx.okL]; trivial)
    · simp only [List.cons.injEq, and_true] at hcs
      rw [hC] at hi hyx
      have hpl : ys[3].2 = MemPlace.row ad ((elems.length + rest.length) * 6) ++ (elems ++ rest).flatMap (·.2) := congrArg Prod.snd hyx
      have one : ∀ i, i < len → ∃ (y : X) (ay : Option Addr) (cy : Nat), (∀ (j : Nat) (hj : j < 6), w.cell? (ad.add (i * 6 + j)) = some ((xC y ay cy)[j]'hj)) ∧ XOk w w.heap.size True y ay ∧ Sx.okX y := by
        intro i hil
        have hie := hi i hil
        rw [List.getElem?_eq_getElem (by omega), Option.bind_eq_some_iff] at hie
        obtain ⟨cs', hc, ht⟩ := hie
        obtain ⟨_, hcl', hat⟩ := World.cells?_some hc
        have hlt : m < fuel := by omega
        obtain ⟨y, ay, cy, hy, hX, hok⟩ := ih m hlt cs' elems[i].1 elems[i].2 ht fun b off hb => hice b off (hps _ (by
          rw [hpl, List.mem_append, List.mem_flatMap]
          exact .inr ⟨elems[i], List.mem_append_left _ (List.getElem_mem _), hb⟩))
        refine ⟨y, ay, cy, fun j hj => ?_, hX, hok⟩
        have h1 := hat j (by omega)
        rw [Go.Deep.add_add] at h1
        rw [h1]
        subst hy
        rw [List.getElem?_eq_getElem (show j < (xC y ay cy).toList.length from hj)]
        rfl
      obtain ⟨f, hfam⟩ : ∃ f : Nat → X × Option Addr × Nat, ∀ i, i < len → (∀ (j : Nat) (hj : j < 6), w.cell? (ad.add (i * 6 + j)) = some ((xC (f i).1 (f i).2.1 (f i).2.2)[j]'hj)) ∧ XOk w w.heap.size True (f i).1 (f i).2.1 ∧ Sx.okX (f i).1 := by
        classical
        exact ⟨fun i => if hil : i < len then ((one i hil).choose, (one i hil).choose_spec.choose, (one i hil).choose_spec.choose_spec.choose) else (Sx.no, none, 0), fun i hil => by
          simp only [dif_pos hil]
          exact (one i hil).choose_spec.choose_spec.choose_spec⟩
      have hlen : ((List.range len).map fun i => (f i).1).length = len := by rw [List.length_map, List.length_range]
      have eL : ∀ i (h : i < ((List.range len).map fun i => (f i).1).length), ((List.range len).map fun i => (f i).1)[i] = (f i).1 := fun i h => by rw [List.getElem_map, List.getElem_range]
      refine fin ((List.range len).map fun i => (f i).1) (some ad) cap (by rw [hlen]; exact hcs) ?_ (by rw [hlen]; omega) (okL_of _ fun i hi2 => by rw [eL i hi2]; rw [hlen] at hi2; exact (hfam i hi2).2.2)
      rw [XOk]
      by_cases h0 : len = 0
      · left; subst h0; rfl
      · right
        have hc0 := (hfam 0 (by omega)).1 0 (by omega)
        have e0 : ad.add (0 * 6 + 0) = ad := by simp [Addr.add]
        rw [e0] at hc0
        obtain ⟨b, o, s⟩ := ad
        obtain rfl : s = none := World.cell?_spot hc0
        refine ⟨b, o, rfl, World.block_lt_of_cell? _ _ hc0, .inl trivial, lok_of _ b o fun i hi2 => ?_⟩
        rw [eL i hi2]
        rw [hlen] at hi2
        obtain ⟨h1, h2, _⟩ := hfam i hi2
        have ha := fun j hj => (add_mid12 b o (i * 6 + j)) ▸ h1 j hj
        refine ⟨hice b _ (hps _ ?_), (f i).2.1, (f i).2.2, ⟨ha 0 (by omega), ?_, ?_, ?_, ?_, ?_⟩, h2⟩
        · rw [hpl, List.mem_append]
          left
          unfold MemPlace.row
          rw [List.mem_map]
          exact ⟨i * 6, by rw [List.mem_range]; have := Nat.mul_le_mul_right 6 (show i + 1 ≤ elems.length + rest.length by omega); omega, rfl⟩
        · rw [Nat.add_assoc]; exact ha 1 (by omega)
        · rw [Nat.add_assoc]; exact ha 2 (by omega)
        · rw [Nat.add_assoc]; exact ha 3 (by omega)
        · rw [Nat.add_assoc]; exact ha 4 (by omega)
        · rw [Nat.add_assoc]; exact ha 5 (by omega)
end
end Go.Proofs.YtmkckbidfpinfaaDoor
