/-
  Layer 14's laws: lives (the document's examples).
-/
import Derived.Test.YtekahmlppaabjaaGreatDoorZSynPrO
import Derived.Test.YtekahmlppaabjaaGreatDoorZSynPrK
namespace Go.Proofs.YtekahmlppaabjaaGreatDoor
open Go.RowKit
open Sx (X)
def Facts14 (w : World) : Prop := Pow10 w ∧ ErrR w ∧ Twos w
theorem facts14_below {w w' : World} (h : Facts14 w) (hb : Below w.heap.size w w') : Facts14 w' := ⟨pow10_below h.1 hb, errR_below h.2.1 hb, twos_below h.2.2 hb⟩
/-- an expression in unmarked rows -/
abbrev XU (w : World) (x : X) (a : Option Addr) : Prop := XAt w (fun j => ∃ cs T, w.heap[j]? = some (.cells cs T (0, 0))) x a
theorem xu_below {w w' : World} {x : X} {a : Option Addr} (h : XU w x a) (hb : Below w.heap.size w w') : XU w' x a :=
  xat_mono (fun j ⟨cs, T, hj⟩ => ⟨cs, T, (hb.block j (Array.getElem?_eq_some_iff.1 hj).1).trans hj⟩) x a (xat_below h hb)
theorem xu_ok {w : World} {x : X} {a : Option Addr} (h : XU w x a) : XOk w w.heap.size False x a := xok_of_xat x a h
theorem xu_of {w w' : World} {x : X} {a : Option Addr} (h : XAt w' (fun j => w.heap.size ≤ j ∧ ∃ cs T, w'.heap[j]? = some (.cells cs T (0, 0))) x a) : XU w' x a := xat_mono (fun _ hj => hj.2) x a h
def exV (n : Int) : X := .mk 1 ⟨1, n, Vl.mt⟩ Vl.mt []
def exN (c : UInt8) : X := .mk 2 Vl.no ⟨#[c]⟩ []
def exX : X := Sx.bin 5 (exN 97) (Sx.bin 6 (Sx.bin 5 (exN 98) (exN 99)) (exV 2))
theorem ex14_parse : Sx.parseT 9 (lexS ⟨#[97, 45, 40, 98, 45, 99, 41, 42, 50]⟩) = (exX, 0, 0) := by kernel_rfl
theorem ex14_text : Sx.textE exX = (⟨#[97, 32, 45, 32, 40, 98, 32, 45, 32, 99, 41, 32, 42, 32, 50]⟩, 0) := by kernel_rfl
theorem ex14_bad : Sx.parseT 5 (lexS ⟨#[97, 60, 98, 60, 99]⟩) = (Sx.no, 3, 11) := by kernel_rfl
theorem ex14_right : Sx.right exX = true ∧ Sx.fit exX = true ∧ Sx.deep exX ≤ 12 := by decide +kernel
set_option maxRecDepth 100000 in
set_option maxHeartbeats 6400000 in
theorem lives14_any (w : World) (hF : Facts14 w) : Calls Tryz.prog 4 #[] w fun e w' => e = .returned (.bool true) ∧ Below w.heap.size w w' := by
  have cP := parse14_any ⟨#[97, 45, 40, 98, 45, 99, 41, 42, 50]⟩ w hF.2.2 hF.2.1
  rw [show (⟨#[97, 45, 40, 98, 45, 99, 41, 42, 50]⟩ : ByteArray).size = 9 from rfl, ex14_parse] at cP
  have H := Lib.hid (And.intro cP hF)
  clear cP hF
  go_enter Tryz.func4, Tryz.ntmps4
  go_wp2_with fail
  refine H.out.1.mono ?_
  rintro e w1 ⟨a1, c1, rfl, hx, hb⟩
  dsimp only
  replace hx : XU w1 exX a1 := xu_of hx
  have hxn := x_new exX a1 c1 w1
  have hB2 := hb.trans (hxn.2.1.mono hb.size)
  have hf2 := facts14_below H.out.2 hB2
  have hfine := Sx.fine_right _ exX (Nat.le_refl _) ex14_right.1 ex14_right.2.1
  have cT := text14_any exX a1 c1 _ (xu_ok (xu_below hx hxn.2.1)) hfine (by have := ex14_right.2.2; omega) (fun h => h.elim) hf2.2.1 hf2.2.2 hf2.1
  obtain ⟨e0, e1, e2, e3, e4, e5⟩ := x_cells hxn.1
  simp only [Nat.zero_add] at e0 e1 e2 e3 e4 e5
  have cT2 := cT.mono fun e w' h => (by
    obtain ⟨s, r, h1, h2, h3⟩ := h
    rcases h3 with h3 | h3
    · rw [ex14_text] at h3
      have e1 : s = _ := congrArg Prod.fst h3
      have e2 : r = _ := congrArg Prod.snd h3
      rw [e1, e2] at h1
      exact And.intro h1 h2
    · exact h3.1.elim : e = .returned (.tuple #[.string ⟨#[97, 32, 45, 32, 40, 98, 32, 45, 32, 99, 41, 32, 42, 32, 50]⟩, .int .i64 0]) ∧ Below _ _ w')
  have H1 := Lib.hid (And.intro hB2 cT2)
  clear hx hb hxn hB2 hf2 hfine cT cT2
  generalize exX = EX at *
  go_wp2_with fail
  refine H1.out.2.mono ?_
  rintro e w3 ⟨rfl, hb3⟩
  have hB3 := H1.out.1.trans (hb3.mono H1.out.1.size)
  have hf3 := facts14_below H.out.2 hB3
  have cP := parse14_any ⟨#[97, 60, 98, 60, 99]⟩ w3 hf3.2.2 hf3.2.1
  rw [show (⟨#[97, 60, 98, 60, 99]⟩ : ByteArray).size = 5 from rfl, ex14_bad] at cP
  have H3 := Lib.hid (And.intro hB3 cP)
  clear hb3 hB3 hf3 cP
  go_wp2_with fail
  refine H3.out.2.mono ?_
  rintro e w4 ⟨a4, c4, rfl, hx4, hb4⟩
  dsimp only
  have hB4 := H3.out.1.trans (hb4.mono H3.out.1.size)
  have hB5 := hB4.trans ((x_new Sx.no a4 c4 w4).2.1.mono hB4.size)
  have H4 := Lib.hid hB5
  clear hx4 hb4 hB4 hB5
  go_wp2_with fail
  go_ret
  exact ⟨rfl, H4.out⟩
end Go.Proofs.YtekahmlppaabjaaGreatDoor
