/-
  Layer 9: the document's node: its bytes, its size, is it right, its error, its page.
-/
import Derived.Test.YtjlglfhnnipjaaaNodeMath
import Derived.Test.YtjlglfhnnipjaaaOctNum
import Derived.Test.YtjlglfhnnipjaaaQTail
import Derived.Test.YtjlglfhnnipjaaaOnly
namespace Go.Proofs.Ytjlglfhnnipjaaa
open Go.RowKit
/-- the slice at a reads as the pairs L -/
def ReadsP (w : World) (a : Option Addr) (L : List (ByteArray × ByteArray)) : Prop := ∀ i (h : i < L.length), ∃ b off, a = some ⟨b, off, none⟩ ∧ w.cell? ⟨b, off + i * 2, none⟩ = some (.string L[i].1) ∧ w.cell? ⟨b, off + i * 2 + 1, none⟩ = some (.string L[i].2)
abbrev nodC (leaf : Bool) (a : Option Addr) (n c : Nat) : List Value := [.bool leaf, .slice a n c]
abbrev nodV (leaf : Bool) (a : Option Addr) (n c : Nat) : Value := .agg #[.bool leaf, .slice a n c]
section
variable {w w' : World} {a : Option Addr} {L : List (ByteArray × ByteArray)}
theorem readsP_none (w : World) (a : Option Addr) : ReadsP w a [] := by intro i hi; simp at hi
theorem readsP_only {F : Nat → Prop} (h : ReadsP w a L) (ho : Only F w w') (hn : ∀ b, a = some b → ¬ F b.block) : ReadsP w' a L := by
  intro i hi
  obtain ⟨b, off, h1, h2, h3⟩ := h i hi
  have hF : ¬ F b := hn _ h1
  exact ⟨b, off, h1, (ho.cell (World.block_lt_of_cell? w _ h2) hF).trans h2, (ho.cell (World.block_lt_of_cell? w _ h3) hF).trans h3⟩
theorem readsP_below (h : ReadsP w a L) (hb : Below w.heap.size w w') : ReadsP w' a L := readsP_only h (Only.of_none (F := fun _ => False) hb) fun _ _ h => h
end
theorem Nd.pairsB_app (A B : List (ByteArray × ByteArray)) : Nd.pairsB (A ++ B) = Nd.pairsB A ++ Nd.pairsB B := by
  induction A with
  | nil => show Nd.pairsB B = ⟨#[]⟩ ++ Nd.pairsB B; exact (ByteArray.empty_append).symm
  | cons x A ih => show Nd.pairB x ++ Nd.pairsB (A ++ B) = (Nd.pairB x ++ Nd.pairsB A) ++ Nd.pairsB B; rw [ih, ByteArray.append_assoc]
theorem Nd.pairsB_next (L : List (ByteArray × ByteArray)) (k : Nat) (hk : k < L.length) : Nd.pairsB (L.take (k + 1)) = Nd.pairsB (L.take k) ++ Nd.txtB L[k].1 ++ Nd.txtB L[k].2 := by
  rw [List.take_succ_eq_append_getElem hk, Nd.pairsB_app]
  show _ ++ (Nd.txtB L[k].1 ++ Nd.txtB L[k].2 ++ ⟨#[]⟩) = _
  rw [show Nd.txtB L[k].1 ++ Nd.txtB L[k].2 ++ ⟨#[]⟩ = Nd.txtB L[k].1 ++ Nd.txtB L[k].2 from ByteArray.append_empty, ByteArray.append_assoc]
theorem Nd.txtB_size (s : ByteArray) (h : s.size ≤ 1000) : (Nd.txtB s).size ≤ 1010 := by
  unfold Nd.txtB
  rw [ByteArray.size_append]
  have := Oct.numB_len (s.size : Int) (by omega) (by omega)
  omega
theorem Nd.pairsB_most : ∀ (L : List (ByteArray × ByteArray)), (∀ x ∈ L, x.1.size ≤ 1000 ∧ x.2.size ≤ 1000) → (Nd.pairsB L).size ≤ 2020 * L.length
  | [], _ => Nat.zero_le _
  | x :: L, h => by
    show (Nd.txtB x.1 ++ Nd.txtB x.2 ++ Nd.pairsB L).size ≤ _
    rw [ByteArray.size_append, ByteArray.size_append, List.length_cons]
    have h1 := Nd.txtB_size x.1 (h x (by simp)).1
    have h2 := Nd.txtB_size x.2 (h x (by simp)).2
    have h3 := Nd.pairsB_most L fun y hy => h y (by simp [hy])
    omega
set_option maxRecDepth 100000 in
set_option maxHeartbeats 400000 in
theorem rtext9t_any (s : ByteArray) (w : World) (hs : s.size ≤ 140737488355328) :
    Calls Try.prog 51 #[.string s] w fun e w' => e = .returned (.string (Nd.txtB s)) ∧ Below w.heap.size w w' := by
  have hl := Oct.numB_len (s.size : Int) (by omega) (by omega)
  go_enter Try.func51, Try.ntmps51
  go_wp2_with (go_at_call 50; refine (rnum_any _ _ (by omega) (by omega)).mono ?_; rintro e w' ⟨rfl, hb⟩; have HB := Lib.hid hb; clear hb)
  go_ret
  exact ⟨rfl, HB.out⟩
set_option maxRecDepth 100000 in
set_option maxHeartbeats 3200000 in
theorem rtext9_any (leaf : Bool) (a : Option Addr) (L : List (ByteArray × ByteArray)) (c : Nat) (w : World) (hr : ReadsP w a L) (hL : L.length ≤ 1000) (hS : ∀ x ∈ L, x.1.size ≤ 1000 ∧ x.2.size ≤ 1000) :
    Calls Try.prog 32 #[nodV leaf a L.length c] w fun e w' => e = .returned (.string (Nd.text ⟨leaf, L⟩)) ∧ Below w.heap.size w w' := by
  have hb : Below w.heap.size w (w.alloc (.cells #[.bool leaf, .slice a L.length c] 24)) := (Below.refl w.heap.size w).alloc (Nat.le_refl _) _
  have hrow := rowV_new w 24 (nodC leaf a L.length c)
  have r0 := rowV_cell hrow 0
  have r1 := rowV_cell hrow 1
  simp only [List.getElem?_cons_zero, List.getElem?_cons_succ] at r0 r1
  have hnl := Oct.numB_len (L.length : Int) (by omega) (by omega)
  have hT : Nd.text ⟨leaf, L⟩ = Nd.kindB leaf ++ Oct.numB L.length ++ Nd.pairsB L := rfl
  have hks : (Nd.kindB leaf ++ Oct.numB L.length).size ≤ 11 := by
    rw [ByteArray.size_append]
    have : (Nd.kindB leaf).size = 1 := by cases leaf <;> rfl
    omega
  have cN := fun wx => rnum_any (L.length : Int) wx (by omega) (by omega)
  rw [hT]
  have H := Lib.hid (And.intro hr (And.intro hb (And.intro hrow cN)))
  clear hr hb hrow hT cN
  cases leaf with
  | true =>
    have hK : (Nd.kindB true) = ⟨#[1]⟩ := rfl
    rw [hK] at hks ⊢
    go_enter Try.func32, Try.ntmps32
    go_wp2_with (go_at_call 50; refine (H.out.2.2.2 _).mono ?_; rintro e w1 ⟨rfl, hb1⟩; have q0 := rowV_cell (rowV_below H.out.2.2.1 hb1 (rowV_lt H.out.2.2.1)) 1; simp only [List.getElem?_cons_zero, List.getElem?_cons_succ] at q0; have H1 := Lib.hid hb1; clear hb1)
    generalize hKK : (⟨#[1]⟩ : ByteArray) ++ Oct.numB (L.length : Int) = KK at *
    have hKT : ∀ k, k ≤ L.length → (KK ++ Nd.pairsB (L.take k)).size ≤ 11 + 2020 * k := fun k hk => by
      rw [ByteArray.size_append]
      have := Nd.pairsB_most (L.take k) fun x hx => hS x (List.mem_of_mem_take hx)
      rw [List.length_take, Nat.min_eq_left hk] at this
      omega
    have hrow1 := rowV_below H.out.2.2.1 H1.out (rowV_lt H.out.2.2.1)
    have hb01 : Below w.heap.size w w1 := H.out.2.1.trans (H1.out.mono (Nat.le_of_lt (by rw [World.size_alloc]; omega)))
    generalize hNN : w.heap.size = N at *
    have HR := Lib.hid (And.intro hrow1 hb01)
    have hr1 := readsP_below H.out.1 (by rw [hNN]; exact hb01)
    clear H1 hrow1 hb01
    have H1 := Lib.hid hr1
    clear hr1 q0 r0 r1
    go_loopw [3, 4] (fun rs i wr => ∃ k : Nat, k ≤ L.length ∧ i = .int .i64 (k : Int) ∧ rs = .string (KK ++ Nd.pairsB (L.take k)) ∧ Hid (Below w1.heap.size w1 wr)) (fun _ i _ => L.length - (RowKit.intOf i).toNat)
    case atStart => exact ⟨0, Nat.zero_le _, rfl, by show _ = Value.string (KK ++ ⟨#[]⟩); rw [show KK ++ ⟨#[]⟩ = KK from ByteArray.append_empty], Lib.hid (Below.refl _ _)⟩
    case round =>
      obtain ⟨k, hk, rfl, rfl, HI⟩ := hrel
      have hrN := rowV_below HR.out.1 HI.out (rowV_lt HR.out.1)
      have cN1 := rowV_cell hrN 1
      simp only [List.getElem?_cons_zero, List.getElem?_cons_succ] at cN1
      by_cases hlt : k < L.length
      · obtain ⟨ab, off, rfl, c0, c1⟩ := (readsP_below H1.out HI.out) k hlt
        have hnext := Nd.pairsB_next L k hlt
        have hsz := hKT k hk
        obtain ⟨s1, s2⟩ := hS _ (List.getElem_mem hlt)
        have t1 := Nd.txtB_size L[k].1 s1
        have t2 := Nd.txtB_size L[k].2 s2
        have cK := fun wx => rtext9t_any L[k].1 wx (by omega)
        have cV := fun wx => rtext9t_any L[k].2 wx (by omega)
        generalize L[k].1 = key at *
        generalize L[k].2 = val at *
        generalize Nd.txtB key = T1 at *
        generalize Nd.txtB val = T2 at *
        have hst : KK ++ Nd.pairsB (L.take (k + 1)) = KK ++ Nd.pairsB (L.take k) ++ T1 ++ T2 := by rw [hnext, ← ByteArray.append_assoc, ← ByteArray.append_assoc]
        generalize KK ++ Nd.pairsB (L.take k) = S at *
        have HC := Lib.hid (And.intro hst (And.intro cK cV))
        have hsz2 : (S ++ T1).size ≤ 1011 + 11 + 2020 * k := by rw [ByteArray.size_append]; omega
        clear hst cK cV hnext hKT
        go_wp2_with fail
        refine wp_region_quiet_tail (C := fun wx => (wx.cell? ⟨N, 1, none⟩ = some (.slice (some ⟨ab, off, none⟩) L.length c) ∧ wx.cell? ⟨ab, off + k * 2, none⟩ = some (.string key) ∧ wx.cell? ⟨ab, off + k * 2 + 1, none⟩ = some (.string val)) ∧ Hid (Below wr.heap.size wr wx)) 17 (by kernel_rfl) (by kernel_rfl) ⟨⟨cN1, c0, c1⟩, Lib.hid (Below.refl wr.heap.size wr).drew⟩ ?_
        simp only [List.take_succ_cons, List.take_zero, List.drop_succ_cons, List.drop_zero]
        iterate 7
          refine wpQuiet_read ?_
          apply Exists.intro
          refine ⟨⟨by rfl, fun wx hSx => ?_⟩, ?_⟩
          · obtain ⟨⟨k0, k1, k2⟩, -⟩ := hSx
            go_simp
            first
              | with_reducible rfl
              | rw [if_neg (by omega)]
          simp only [Act.put, List.setIfInBounds_toArray, List.set_cons_zero, List.set_cons_succ]
        refine wpQuiet_call rfl 51 #[.string key] (.string T1) (fun wx hSx => by go_simp) (fun wx hSx => (HC.out.2.1 wx).mono fun e w' hh => ⟨hh.1, ⟨(hh.2.cell (p := ⟨N, 1, none⟩) (World.block_lt_of_cell? _ _ hSx.1.1)).trans hSx.1.1, (hh.2.cell (p := ⟨ab, off + k * 2, none⟩) (World.block_lt_of_cell? _ _ hSx.1.2.1)).trans hSx.1.2.1, (hh.2.cell (p := ⟨ab, off + k * 2 + 1, none⟩) (World.block_lt_of_cell? _ _ hSx.1.2.2)).trans hSx.1.2.2⟩, Lib.hid (hSx.2.out.trans (hh.2.mono hSx.2.out.size))⟩) ?_
        simp only [Act.put, List.setIfInBounds_toArray, List.set_cons_zero, List.set_cons_succ]
        iterate 7
          refine wpQuiet_read ?_
          apply Exists.intro
          refine ⟨⟨by rfl, fun wx hSx => ?_⟩, ?_⟩
          · obtain ⟨⟨k0, k1, k2⟩, -⟩ := hSx
            go_simp
            first
              | with_reducible rfl
              | rw [if_neg (by omega)]
          simp only [Act.put, List.setIfInBounds_toArray, List.set_cons_zero, List.set_cons_succ]
        refine wpQuiet_call rfl 51 #[.string val] (.string T2) (fun wx hSx => by go_simp) (fun wx hSx => (HC.out.2.2 wx).mono fun e w' hh => ⟨hh.1, ⟨(hh.2.cell (p := ⟨N, 1, none⟩) (World.block_lt_of_cell? _ _ hSx.1.1)).trans hSx.1.1, (hh.2.cell (p := ⟨ab, off + k * 2, none⟩) (World.block_lt_of_cell? _ _ hSx.1.2.1)).trans hSx.1.2.1, (hh.2.cell (p := ⟨ab, off + k * 2 + 1, none⟩) (World.block_lt_of_cell? _ _ hSx.1.2.2)).trans hSx.1.2.2⟩, Lib.hid (hSx.2.out.trans (hh.2.mono hSx.2.out.size))⟩) ?_
        simp only [Act.put, List.setIfInBounds_toArray, List.set_cons_zero, List.set_cons_succ]
        refine wpQuiet_read ?_
        apply Exists.intro
        refine ⟨⟨by rfl, fun wx hSx => ?_⟩, ?_⟩
        · obtain ⟨⟨k0, k1, k2⟩, -⟩ := hSx
          go_simp
          first
            | with_reducible rfl
            | rw [if_neg (by omega)]
        simp only [Act.put, List.setIfInBounds_toArray, List.set_cons_zero, List.set_cons_succ]
        refine wpQuiet_nil ?_
        rintro w5 ⟨-, hb5⟩
        go_wp2_with fail
        go_roundw
        case rel => exact ⟨k + 1, by omega, by go_num, by rw [HC.out.1], Lib.hid (HI.out.trans (hb5.out.mono HI.out.size))⟩
        case measure => simp [RowKit.intOf]; omega
      · obtain rfl : k = L.length := by omega
        go_wp2_with fail
        go_ret
        rw [List.take_length, hKK]
        have hfin := HR.out.2.trans (HI.out.mono (show N ≤ w1.heap.size by rw [← hNN]; exact HR.out.2.size))
        exact ⟨rfl, by rw [hNN]; exact hfin⟩
  | false =>
    have hK : (Nd.kindB false) = ⟨#[2]⟩ := rfl
    rw [hK] at hks ⊢
    go_enter Try.func32, Try.ntmps32
    go_wp2_with (go_at_call 50; refine (H.out.2.2.2 _).mono ?_; rintro e w1 ⟨rfl, hb1⟩; have q0 := rowV_cell (rowV_below H.out.2.2.1 hb1 (rowV_lt H.out.2.2.1)) 1; simp only [List.getElem?_cons_zero, List.getElem?_cons_succ] at q0; have H1 := Lib.hid hb1; clear hb1)
    generalize hKK : (⟨#[2]⟩ : ByteArray) ++ Oct.numB (L.length : Int) = KK at *
    have hKT : ∀ k, k ≤ L.length → (KK ++ Nd.pairsB (L.take k)).size ≤ 11 + 2020 * k := fun k hk => by
      rw [ByteArray.size_append]
      have := Nd.pairsB_most (L.take k) fun x hx => hS x (List.mem_of_mem_take hx)
      rw [List.length_take, Nat.min_eq_left hk] at this
      omega
    have hrow1 := rowV_below H.out.2.2.1 H1.out (rowV_lt H.out.2.2.1)
    have hb01 : Below w.heap.size w w1 := H.out.2.1.trans (H1.out.mono (Nat.le_of_lt (by rw [World.size_alloc]; omega)))
    generalize hNN : w.heap.size = N at *
    have HR := Lib.hid (And.intro hrow1 hb01)
    have hr1 := readsP_below H.out.1 (by rw [hNN]; exact hb01)
    clear H1 hrow1 hb01
    have H1 := Lib.hid hr1
    clear hr1 q0 r0 r1
    go_loopw [3, 4] (fun rs i wr => ∃ k : Nat, k ≤ L.length ∧ i = .int .i64 (k : Int) ∧ rs = .string (KK ++ Nd.pairsB (L.take k)) ∧ Hid (Below w1.heap.size w1 wr)) (fun _ i _ => L.length - (RowKit.intOf i).toNat)
    case atStart => exact ⟨0, Nat.zero_le _, rfl, by show _ = Value.string (KK ++ ⟨#[]⟩); rw [show KK ++ ⟨#[]⟩ = KK from ByteArray.append_empty], Lib.hid (Below.refl _ _)⟩
    case round =>
      obtain ⟨k, hk, rfl, rfl, HI⟩ := hrel
      have hrN := rowV_below HR.out.1 HI.out (rowV_lt HR.out.1)
      have cN1 := rowV_cell hrN 1
      simp only [List.getElem?_cons_zero, List.getElem?_cons_succ] at cN1
      by_cases hlt : k < L.length
      · obtain ⟨ab, off, rfl, c0, c1⟩ := (readsP_below H1.out HI.out) k hlt
        have hnext := Nd.pairsB_next L k hlt
        have hsz := hKT k hk
        obtain ⟨s1, s2⟩ := hS _ (List.getElem_mem hlt)
        have t1 := Nd.txtB_size L[k].1 s1
        have t2 := Nd.txtB_size L[k].2 s2
        have cK := fun wx => rtext9t_any L[k].1 wx (by omega)
        have cV := fun wx => rtext9t_any L[k].2 wx (by omega)
        generalize L[k].1 = key at *
        generalize L[k].2 = val at *
        generalize Nd.txtB key = T1 at *
        generalize Nd.txtB val = T2 at *
        have hst : KK ++ Nd.pairsB (L.take (k + 1)) = KK ++ Nd.pairsB (L.take k) ++ T1 ++ T2 := by rw [hnext, ← ByteArray.append_assoc, ← ByteArray.append_assoc]
        generalize KK ++ Nd.pairsB (L.take k) = S at *
        have HC := Lib.hid (And.intro hst (And.intro cK cV))
        have hsz2 : (S ++ T1).size ≤ 1011 + 11 + 2020 * k := by rw [ByteArray.size_append]; omega
        clear hst cK cV hnext hKT
        go_wp2_with fail
        refine wp_region_quiet_tail (C := fun wx => (wx.cell? ⟨N, 1, none⟩ = some (.slice (some ⟨ab, off, none⟩) L.length c) ∧ wx.cell? ⟨ab, off + k * 2, none⟩ = some (.string key) ∧ wx.cell? ⟨ab, off + k * 2 + 1, none⟩ = some (.string val)) ∧ Hid (Below wr.heap.size wr wx)) 17 (by kernel_rfl) (by kernel_rfl) ⟨⟨cN1, c0, c1⟩, Lib.hid (Below.refl wr.heap.size wr).drew⟩ ?_
        simp only [List.take_succ_cons, List.take_zero, List.drop_succ_cons, List.drop_zero]
        iterate 7
          refine wpQuiet_read ?_
          apply Exists.intro
          refine ⟨⟨by rfl, fun wx hSx => ?_⟩, ?_⟩
          · obtain ⟨⟨k0, k1, k2⟩, -⟩ := hSx
            go_simp
            first
              | with_reducible rfl
              | rw [if_neg (by omega)]
          simp only [Act.put, List.setIfInBounds_toArray, List.set_cons_zero, List.set_cons_succ]
        refine wpQuiet_call rfl 51 #[.string key] (.string T1) (fun wx hSx => by go_simp) (fun wx hSx => (HC.out.2.1 wx).mono fun e w' hh => ⟨hh.1, ⟨(hh.2.cell (p := ⟨N, 1, none⟩) (World.block_lt_of_cell? _ _ hSx.1.1)).trans hSx.1.1, (hh.2.cell (p := ⟨ab, off + k * 2, none⟩) (World.block_lt_of_cell? _ _ hSx.1.2.1)).trans hSx.1.2.1, (hh.2.cell (p := ⟨ab, off + k * 2 + 1, none⟩) (World.block_lt_of_cell? _ _ hSx.1.2.2)).trans hSx.1.2.2⟩, Lib.hid (hSx.2.out.trans (hh.2.mono hSx.2.out.size))⟩) ?_
        simp only [Act.put, List.setIfInBounds_toArray, List.set_cons_zero, List.set_cons_succ]
        iterate 7
          refine wpQuiet_read ?_
          apply Exists.intro
          refine ⟨⟨by rfl, fun wx hSx => ?_⟩, ?_⟩
          · obtain ⟨⟨k0, k1, k2⟩, -⟩ := hSx
            go_simp
            first
              | with_reducible rfl
              | rw [if_neg (by omega)]
          simp only [Act.put, List.setIfInBounds_toArray, List.set_cons_zero, List.set_cons_succ]
        refine wpQuiet_call rfl 51 #[.string val] (.string T2) (fun wx hSx => by go_simp) (fun wx hSx => (HC.out.2.2 wx).mono fun e w' hh => ⟨hh.1, ⟨(hh.2.cell (p := ⟨N, 1, none⟩) (World.block_lt_of_cell? _ _ hSx.1.1)).trans hSx.1.1, (hh.2.cell (p := ⟨ab, off + k * 2, none⟩) (World.block_lt_of_cell? _ _ hSx.1.2.1)).trans hSx.1.2.1, (hh.2.cell (p := ⟨ab, off + k * 2 + 1, none⟩) (World.block_lt_of_cell? _ _ hSx.1.2.2)).trans hSx.1.2.2⟩, Lib.hid (hSx.2.out.trans (hh.2.mono hSx.2.out.size))⟩) ?_
        simp only [Act.put, List.setIfInBounds_toArray, List.set_cons_zero, List.set_cons_succ]
        refine wpQuiet_read ?_
        apply Exists.intro
        refine ⟨⟨by rfl, fun wx hSx => ?_⟩, ?_⟩
        · obtain ⟨⟨k0, k1, k2⟩, -⟩ := hSx
          go_simp
          first
            | with_reducible rfl
            | rw [if_neg (by omega)]
        simp only [Act.put, List.setIfInBounds_toArray, List.set_cons_zero, List.set_cons_succ]
        refine wpQuiet_nil ?_
        rintro w5 ⟨-, hb5⟩
        go_wp2_with fail
        go_roundw
        case rel => exact ⟨k + 1, by omega, by go_num, by rw [HC.out.1], Lib.hid (HI.out.trans (hb5.out.mono HI.out.size))⟩
        case measure => simp [RowKit.intOf]; omega
      · obtain rfl : k = L.length := by omega
        go_wp2_with fail
        go_ret
        rw [List.take_length, hKK]
        have hfin := HR.out.2.trans (HI.out.mono (show N ≤ w1.heap.size by rw [← hNN]; exact HR.out.2.size))
        exact ⟨rfl, by rw [hNN]; exact hfin⟩
set_option maxRecDepth 100000 in
set_option maxHeartbeats 1600000 in
theorem rsize9_any (leaf : Bool) (a : Option Addr) (L : List (ByteArray × ByteArray)) (c : Nat) (w : World) (hr : ReadsP w a L) (hL : L.length ≤ 1000) (hS : ∀ x ∈ L, x.1.size ≤ 1000 ∧ x.2.size ≤ 1000) :
    Calls Try.prog 14 #[nodV leaf a L.length c] w fun e w' => e = .returned (.int .i64 ((Nd.text ⟨leaf, L⟩).size : Int)) ∧ Below w.heap.size w w' := by
  have hb : Below w.heap.size w (w.alloc (.cells #[.bool leaf, .slice a L.length c] 24)) := (Below.refl w.heap.size w).alloc (Nat.le_refl _) _
  have hrow := rowV_new w 24 (nodC leaf a L.length c)
  have r0 := rowV_cell hrow 0
  have r1 := rowV_cell hrow 1
  simp only [List.getElem?_cons_zero, List.getElem?_cons_succ] at r0 r1
  have cT := rtext9_any leaf a L c (w.alloc (.cells #[.bool leaf, .slice a L.length c] 24)) (readsP_below hr hb) hL hS
  generalize Nd.text ⟨leaf, L⟩ = T at *
  have H := Lib.hid (And.intro cT hb)
  clear hr hb hrow cT
  go_enter Try.func14, Try.ntmps14
  go_wp2_with (go_at_call 32; refine H.out.1.mono ?_; rintro e w1 ⟨rfl, hb1⟩; have H1 := Lib.hid hb1; clear hb1)
  go_ret
  exact ⟨rfl, H.out.2.trans (H1.out.mono H.out.2.size)⟩
end Go.Proofs.Ytjlglfhnnipjaaa
