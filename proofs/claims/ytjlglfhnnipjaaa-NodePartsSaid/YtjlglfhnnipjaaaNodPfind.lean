/-
  Layer 9: the program's node: where a key stands (Find, Least).
-/
import Derived.Test.YtjlglfhnnipjaaaNodRfind
import Derived.Test.YtjlglfhnnipjaaaSch
import Derived.BigQuiet
namespace Go.Proofs.Ytjlglfhnnipjaaa
open Go.RowKit Go.Lib Go.Sort
def Nd.foundB (L : List (ByteArray × ByteArray)) (key : ByteArray) : Bool := decide (0 ≤ Nd.findI L key ∧ (L.getD (Nd.findI L key).toNat (⟨#[]⟩, ⟨#[]⟩)).1 = key)
theorem Nd.lastB_found {L : List (ByteArray × ByteArray)} (hr : Nd.rising L) (key : ByteArray) : Nd.lastB L key = Nd.foundB L key := by
  unfold Nd.lastB Nd.foundB; rw [Nd.lastK_find hr]
section
variable {w : World}
set_option maxRecDepth 100000 in
set_option maxHeartbeats 800000 in
theorem find9_1 (bn bk ab off i n c : Nat) (x key : ByteArray) (W : World) (hi : i < n) (_hn : n ≤ 1000000)
    (h1 : W.cell? ⟨bn, 1, none⟩ = some (.slice (some ⟨ab, off, none⟩) n c)) (h2 : W.cell? ⟨bk, 0, none⟩ = some (.string key)) (h3 : W.cell? ⟨ab, off + i * 2, none⟩ = some (.string x)) :
    Calls Try.prog 34 (#[.int .i64 i] ++ #[.pointer (some ⟨bn, 0, none⟩), .pointer (some ⟨bk, 0, none⟩)]) W fun e w' => e = .returned (.bool (!Nd.le x key)) ∧ ∃ q, w' = W.drewN q := by
  have hiz : (i : Int) < (n : Int) := by omega
  have HE := Lib.hid (show (!Op.bytesLess x.toList key.toList && !x.toList == key.toList) = !Nd.le x key from (Bool.not_or _ _).symm)
  go_enter Try.func34, Try.ntmps34
  go_wp2_with fail
  go_quiet (fail)
  go_wp2
  go_ret
  exact ⟨by rw [← HE.out]; rfl, _, rfl⟩
set_option maxRecDepth 100000 in
set_option maxHeartbeats 1600000 in
theorem find9_any (leaf : Bool) (a : Option Addr) (L : List (ByteArray × ByteArray)) (c : Nat) (key : ByteArray) (w : World) (hr : ReadsP w a L) (hL : L.length ≤ 1000000) (hL0 : 0 < L.length) (hris : Nd.rising L) :
    Calls Try.prog 17 #[nodV leaf a L.length c, .string key] w fun e w' => e = .returned (.tuple #[.int .i64 (Nd.findI L key), .bool (Nd.foundB L key)]) ∧ Below w.heap.size w w' := by
  obtain ⟨ab, off, rfl, _, _⟩ := hr 0 hL0
  have eg : ∀ args w, (callFunc 34 args).run Try.prog w = .ok (.enter 34 args) w := enters_of Try.func34 (by kernel_rfl) rfl
  obtain ⟨W0, hW0⟩ : ∃ W0, W0 = (w.alloc (.cells #[.bool leaf, .slice (some ⟨ab, off, none⟩) L.length c] 24)).alloc (.cells #[.string key] 9) := ⟨_, rfl⟩
  have hb1 : Below w.heap.size w (w.alloc (.cells #[.bool leaf, .slice (some ⟨ab, off, none⟩) L.length c] 24)) := (Below.refl w.heap.size w).alloc (Nat.le_refl _) _
  have hs1 : (w.alloc (.cells #[.bool leaf, .slice (some ⟨ab, off, none⟩) L.length c] 24)).heap.size = w.heap.size + 1 := World.size_alloc _ _
  have hb0 : Below w.heap.size w W0 := by rw [hW0]; exact hb1.alloc (by rw [hs1]; omega) _
  have hs0 : W0.heap.size = w.heap.size + 1 + 1 := by rw [hW0, World.size_alloc, hs1]
  have hrow := rowV_alloc (rowV_new w 24 (nodC leaf (some ⟨ab, off, none⟩) L.length c)) (.cells #[.string key] 9)
  have hkey := rowV_new (w.alloc (.cells #[.bool leaf, .slice (some ⟨ab, off, none⟩) L.length c] 24)) 9 [.string key]
  rw [hs1] at hkey
  have n1 := rowV_cell hrow 1
  have k0 := rowV_cell hkey 0
  simp only [List.getElem?_cons_zero, List.getElem?_cons_succ] at n1 k0
  have hn1 : W0.cell? ⟨w.heap.size, 1, none⟩ = some (.slice (some ⟨ab, off, none⟩) L.length c) := by rw [hW0]; exact n1
  have hk0 : W0.cell? ⟨w.heap.size + 1, 0, none⟩ = some (.string key) := by rw [hW0]; exact k0
  have hr0 := readsP_below hr hb0
  have hS := search_any 34 #[.pointer (some ⟨w.heap.size, 0, none⟩), .pointer (some ⟨w.heap.size + 1, 0, none⟩)] L.length (fun i => !Nd.le (L.getD i (⟨#[]⟩, ⟨#[]⟩)).1 key) W0 eg (by omega)
    (fun m os i hi => by
      obtain ⟨ab', off', e, c0, _⟩ := hr0 i hi
      cases e
      have hg : (L.getD i (⟨#[]⟩, ⟨#[]⟩)).1 = L[i].1 := by rw [List.getD_eq_getElem?_getD, List.getElem?_eq_getElem hi]; rfl
      refine (find9_1 w.heap.size (w.heap.size + 1) ab off i L.length c L[i].1 key _ hi hL (cell_grown (by show w.heap.size < W0.heap.size; omega) hn1 m os) (cell_grown (by show w.heap.size + 1 < W0.heap.size; omega) hk0 m os) (cell_grown (World.block_lt_of_cell? _ _ c0) c0 m os)).mono ?_
      rintro e w' ⟨he, q, hq⟩
      exact ⟨by rw [he]; show _ = Ending.returned (.bool (!Nd.le (L.getD i (⟨#[]⟩, ⟨#[]⟩)).1 key)); rw [hg], q, #[], by rw [hq, grow_empty]⟩)
    (fun x y hxy hy h => by
      have g := fun i (hi : i < L.length) => show (L.getD i (⟨#[]⟩, ⟨#[]⟩)).1 = L[i].1 by rw [List.getD_eq_getElem?_getD, List.getElem?_eq_getElem hi]; rfl
      rw [g x (by omega)] at h
      rw [g y hy]
      have u1 := Nd.upto_iff hris key x (by omega)
      have u2 := Nd.upto_iff hris key y hy
      cases e1 : Nd.le L[x].1 key with
      | true => rw [e1] at h; cases h
      | false =>
        cases e2 : Nd.le L[y].1 key with
        | false => rfl
        | true =>
          have := u2.1 e2
          rw [u1.2 (by omega)] at e1; cases e1)
  rw [count_below L.length (Nd.upto L key) _ (Nd.upto_le L key) (fun i hi => by
    have hg : (L.getD i (⟨#[]⟩, ⟨#[]⟩)).1 = L[i].1 := by rw [List.getD_eq_getElem?_getD, List.getElem?_eq_getElem hi]; rfl
    rw [hg, ← Nd.upto_iff hris key i hi]; simp)] at hS
  have hf : Nd.findI L key = (Nd.upto L key : Int) - 1 := rfl
  have hu := Nd.upto_le L key
  have hB : Nd.foundB L key = decide (0 ≤ Nd.findI L key ∧ (L.getD (Nd.findI L key).toNat (⟨#[]⟩, ⟨#[]⟩)).1 = key) := rfl
  rw [hf] at hB ⊢
  generalize Nd.foundB L key = RB at *
  generalize Nd.upto L key = u at *
  have H := Lib.hid (And.intro hS (And.intro hb0 hr0))
  have HZ := Lib.hid hs0
  clear hS hb0 hr0 hris hrow hkey n1 k0 hb1 hs1 hs0 hr eg
  by_cases h0 : u = 0
  · subst h0
    rw [decide_eq_false (by omega)] at hB
    subst hB
    go_enter Try.func17, Try.ntmps17
    go_wp2_with (go_at_call 35; rw [← hW0]; refine H.out.1.mono ?_; rintro e w1 ⟨rfl, hb1⟩; have H1 := Lib.hid (H.out.2.1.trans (hb1.mono H.out.2.1.size)); clear hb1)
    clear hn1 hk0 hf hu
    go_quiet (fail)
    go_wp2
    go_ret2
    exact ⟨rfl, below_drewN H1.out _⟩
  · obtain ⟨j, rfl⟩ : ∃ j, u = j + 1 := ⟨u - 1, by omega⟩
    have hj : ((j + 1 : Nat) : Int) - 1 = (j : Int) := by omega
    rw [hj] at hB ⊢
    have hjl : j < L.length := by omega
    have hj0 : decide (0 ≤ (j : Int)) = true := decide_eq_true (by omega)
    have hg : (L.getD (j : Int).toNat (⟨#[]⟩, ⟨#[]⟩)).1 = L[j].1 := by rw [Int.toNat_natCast, List.getD_eq_getElem?_getD, List.getElem?_eq_getElem hjl]; rfl
    rw [hg] at hB
    obtain ⟨ab', off', e, c0, _⟩ := H.out.2.2 j hjl
    cases e
    generalize L[j].1 = x at *
    clear hg hf hu h0
    by_cases hx : x = key
    · subst hx
      rw [decide_eq_true ⟨by omega, rfl⟩] at hB
      subst hB
      go_enter Try.func17, Try.ntmps17
      go_wp2_with (go_at_call 35; rw [← hW0]; refine H.out.1.mono ?_; rintro e w1 ⟨rfl, hb1⟩; have m1 := (hb1.cell (World.block_lt_of_cell? _ _ hn1)).trans hn1; have m2 := (hb1.cell (World.block_lt_of_cell? _ _ hk0)).trans hk0; have m3 := (hb1.cell (World.block_lt_of_cell? _ _ c0)).trans c0; have H1 := Lib.hid (H.out.2.1.trans (hb1.mono H.out.2.1.size)); clear hb1)
      clear hn1 hk0 c0
      go_quiet (fail)
      go_wp2
      go_ret2
      exact ⟨rfl, below_drewN H1.out _⟩
    · have hne := str_neq hx
      have hb := str_beq hne
      rw [decide_eq_false (fun h => hx h.2)] at hB
      subst hB
      go_enter Try.func17, Try.ntmps17
      go_wp2_with (go_at_call 35; rw [← hW0]; refine H.out.1.mono ?_; rintro e w1 ⟨rfl, hb1⟩; have m1 := (hb1.cell (World.block_lt_of_cell? _ _ hn1)).trans hn1; have m2 := (hb1.cell (World.block_lt_of_cell? _ _ hk0)).trans hk0; have m3 := (hb1.cell (World.block_lt_of_cell? _ _ c0)).trans c0; have H1 := Lib.hid (H.out.2.1.trans (hb1.mono H.out.2.1.size)); clear hb1)
      clear hn1 hk0 c0
      go_quiet (fail)
      go_wp2
      go_ret2
      exact ⟨rfl, below_drewN H1.out _⟩
set_option maxRecDepth 100000 in
theorem least9_any (leaf : Bool) (a : Option Addr) (L : List (ByteArray × ByteArray)) (c : Nat) (w : World) (hr : ReadsP w a L) (hL : L.length ≤ 1000000) :
    Calls Try.prog 15 #[nodV leaf a L.length c] w fun e w' => e = .returned (.string (L.getD 0 (⟨#[]⟩, ⟨#[]⟩)).1) ∧ Below w.heap.size w w' := by
  have hb : Below w.heap.size w (w.alloc (.cells #[.bool leaf, .slice a L.length c] 24)) := (Below.refl w.heap.size w).alloc (Nat.le_refl _) _
  have hrow := rowV_new w 24 (nodC leaf a L.length c)
  have r1 := rowV_cell hrow 1
  simp only [List.getElem?_cons_zero, List.getElem?_cons_succ] at r1
  cases L with
  | nil =>
    have HB := Lib.hid hb
    clear hb hrow hr
    go_enter Try.func15, Try.ntmps15
    go_wp2_with fail
    go_ret
    exact ⟨rfl, HB.out⟩
  | cons x L =>
    obtain ⟨ab, off, rfl, c0, c1⟩ := (readsP_below hr hb) 0 (by simp)
    clear c1
    have q0 : ((((x :: L).length : Nat) : Int) == 0) = false := by simp; omega
    have q1 : 0 < (x :: L).length := by simp
    have hx : ((x :: L).getD 0 (⟨#[]⟩, ⟨#[]⟩)).1 = x.1 := rfl
    have hx2 : (x :: L)[0].1 = x.1 := rfl
    rw [hx]
    rw [hx2] at c0
    clear hr
    have c0' : (w.alloc (.cells #[.bool leaf, .slice (some ⟨ab, off, none⟩) (x :: L).length c] 24)).cell? ⟨ab, off, none⟩ = some (.string x.1) := by simpa using c0
    clear c0 hx2 hx
    generalize x.1 = key at *
    generalize (x :: L).length = n at *
    have HB := Lib.hid hb
    clear hb hrow
    go_enter Try.func15, Try.ntmps15
    go_wp2_with fail
    go_ret
    exact ⟨rfl, HB.out⟩
end
end Go.Proofs.Ytjlglfhnnipjaaa
