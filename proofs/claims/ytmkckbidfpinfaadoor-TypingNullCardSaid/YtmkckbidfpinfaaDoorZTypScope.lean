/-
  Layer 15, the program's: the kinds of columns by their names; the kind of an expression whose parts have some kinds.
-/
import Derived.Test.YtmkckbidfpinfaaDoorZTypRes2
import Derived.Test.YtmkckbidfpinfaaDoorPk5
import Derived.Test.YtmkckbidfpinfaaDoorPk3
namespace Go.Proofs.YtmkckbidfpinfaaDoor
open Go.RowKit
open Sx (X)
abbrev kEnc (k : Int) : Value := .int .i64 k
abbrev kLit (k : Int) : Lit := .int .i64 k
theorem codedK : CodedS kEnc kLit := ⟨fun a b h => by injection h, fun a b h => by injection h⟩
theorem zeroK (w : World) : (zeroValue 23).run Tryd.prog w = .ok (kEnc 0) w := by kernel_rfl
/-- the kinds of columns, as a map -/
abbrev ScopeS (w : World) (b n : Nat) (cs : List Ty.Col) : Prop := MapS kEnc kLit w b n (Ty.look cs)
theorem Ty.look_nil (s : ByteArray) : Ty.look [] s = none := rfl
theorem Ty.look_cons (c : Ty.Col) (cs : List Ty.Col) : Ty.look (c :: cs) = fun s => if s = c.1 then some c.2 else Ty.look cs s := by
  funext s
  unfold Ty.look
  rw [List.find?_cons]
  by_cases h : s = c.1
  · rw [if_pos h, decide_eq_true h.symm]; rfl
  · rw [if_neg h, decide_eq_false fun e => h e.symm]
set_option maxRecDepth 100000 in
theorem ofColumn15_any (k : Int) (w : World) : Calls Tryd.prog 27 #[.int .i64 k] w fun e w' => e = .returned (.bool (decide (1 ≤ k ∧ k ≤ 3))) ∧ w' = w := by
  by_cases h1 : k = 1
  · subst h1
    go_enter Tryd.func27, Tryd.ntmps27
    go_wp2_with fail
    go_ret
    exact ⟨rfl, rfl⟩
  by_cases h2 : k = 2
  · subst h2
    go_enter Tryd.func27, Tryd.ntmps27
    go_wp2_with fail
    go_ret
    exact ⟨rfl, rfl⟩
  by_cases h3 : k = 3
  · subst h3
    go_enter Tryd.func27, Tryd.ntmps27
    go_wp2_with fail
    go_ret
    exact ⟨rfl, rfl⟩
  have t1 : (k == 1) = false := by simpa using h1
  have t2 : (k == 2) = false := by simpa using h2
  have t3 : (k == 3) = false := by simpa using h3
  have hd : decide (1 ≤ k ∧ k ≤ 3) = false := decide_eq_false (by omega)
  rw [hd]
  go_enter Tryd.func27, Tryd.ntmps27
  go_wp2_with fail
  go_ret
  exact ⟨rfl, rfl⟩
set_option maxRecDepth 100000 in
set_option maxHeartbeats 3200000 in
theorem skind15_any (cs : List Ty.Col) (mb mn : Nat) (x : X) (a : Option Addr) (c : Nat) (ks : List Int) (al : Option Addr) (n cp : Nat) (hn : ks.length = n) (hl : n ≤ 1000000) (hd : Ty.need x.op ≤ n) (hs : x.s.size ≤ 1000000) (w : World) (hM : ScopeS w mb mn cs) (hR : ReadsK w al ks) :
    Calls Tryd.prog 36 #[.map (some mb), xV x a c, .slice al n cp] w fun e w' => e = .returned (.tuple #[.int .i64 (Ty.own cs x ks).1, .int .i64 (Ty.own cs x ks).2]) ∧ Below w.heap.size w w' := by
  have hxn := x_new x a c w
  obtain ⟨e0, e1, e2, e3, e4, e5⟩ := x_cells hxn.1
  simp only [Nat.zero_add] at e0 e1 e2 e3 e4 e5
  have hM1 := mapS_below hM hxn.2.1
  have hlook := mapS_look codedK Tryd.underlying63 zeroK hM1 x.s (by unfold maxLen; omega)
  have cR := result15_any x.op ks al n cp hn hl hd _ (readsK_below hR hxn.2.1)
  have hE : Ty.own cs x ks = if x.op = 1 then (x.v.kind, (0 : Int)) else if x.op = 2 then (match Ty.look cs x.s with | some k => (k, (0 : Int)) | none => ((0 : Int), (13 : Int))) else if (Ty.result x.op ks).2 = true then ((Ty.result x.op ks).1, (0 : Int)) else ((0 : Int), (14 : Int)) := rfl
  have H := Lib.hid (And.intro hxn.2 cR)
  clear hxn hM hR cR hM1
  generalize hop : x.op = op at *
  by_cases h1 : op = 1
  · rw [if_pos h1] at hE
    rw [hE]
    subst h1
    clear hE hlook
    go_enter Tryd.func36, Tryd.ntmps36
    go_wp2_with fail
    go_ret2
    exact ⟨rfl, H.out.1.1⟩
  · rw [if_neg h1] at hE
    have t1 : (op == 1) = false := by simpa using h1
    by_cases h2 : op = 2
    · rw [if_pos h2] at hE
      subst h2
      cases hf : Ty.look cs x.s with
      | none =>
        rw [hf] at hlook hE
        rw [hE]
        dsimp only [Option.isSome, Option.getD] at hlook
        clear hE hf
        go_enter Tryd.func36, Tryd.ntmps36
        go_wp2_with fail
        go_ret2
        exact ⟨rfl, H.out.1.1⟩
      | some k =>
        rw [hf] at hlook hE
        rw [hE]
        dsimp only [Option.isSome, Option.getD] at hlook
        clear hE hf
        go_enter Tryd.func36, Tryd.ntmps36
        go_wp2_with fail
        go_ret2
        exact ⟨rfl, H.out.1.1⟩
    · rw [if_neg h2] at hE
      have t2 : (op == 2) = false := by simpa using h2
      clear hlook
      unfold ResP at H
      obtain ⟨RR, hRR⟩ : ∃ RR, Ty.result op ks = RR := ⟨_, rfl⟩
      rw [hRR] at H hE
      rw [hE]
      obtain ⟨rk, rb⟩ := RR
      clear hE hRR
      cases rb with
      | true =>
        rw [if_pos rfl]
        go_enter Tryd.func36, Tryd.ntmps36
        go_wp2_with fail
        refine H.out.2.mono ?_
        rintro e w1 ⟨rfl, hb⟩
        dsimp only
        have H1 := Lib.hid (H.out.1.1.trans (hb.mono H.out.1.1.size))
        clear hb
        go_wp2_with fail
        go_ret2
        exact ⟨rfl, H1.out⟩
      | false =>
        rw [if_neg (by simp)]
        go_enter Tryd.func36, Tryd.ntmps36
        go_wp2_with fail
        refine H.out.2.mono ?_
        rintro e w1 ⟨rfl, hb⟩
        dsimp only
        have H1 := Lib.hid (H.out.1.1.trans (hb.mono H.out.1.1.size))
        clear hb
        go_wp2_with fail
        go_ret2
        exact ⟨rfl, H1.out⟩
end Go.Proofs.YtmkckbidfpinfaaDoor
