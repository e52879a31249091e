/-
  Layer 13, the program's: tokens joined.
-/
import Derived.Test.YtmpfnokddpbgcaaDoorZLexProg8
import Derived.Test.YtmpfnokddpbgcaaDoorZLexJoin
import Derived.Test.YtmpfnokddpbgcaaDoorPk3
namespace Go.Proofs.YtmpfnokddpbgcaaDoor
open Go.RowKit
abbrev cs1 (s : ByteArray) : List Value := [.string s]
theorem str_parts13 : (Tryd.prog.info? 9).map (fun i => (i.zero, i.size, i.bytes)) = some (some (.string ByteArray.empty), 1, 16) := by kernel_rfl
theorem str_elem : ElemOk Tryd.prog 9 1 16 := elemOk_of str_parts13 rfl (by decide) (by decide)
theorem cs1_one (s : ByteArray) : ∀ u ∈ cs1 s, u.oneCell' = true := by intro u hu; simp at hu; subst hu; rfl
theorem owL_readsS {w : World} {B : Nat} {ao : Option Addr} {cp k : Nat} {L : List ByteArray} (hk : L.length = k) (h : OwL cs1 9 1 w B (.slice ao k cp) L) : ReadsS w ao L ∧ L.length ≤ cp := by
  refine ⟨fun i hi => ?_, ?_⟩
  · obtain ⟨g, c, e, hc⟩ := owL_cell (f := cs1) (k := 1) (fun _ _ => rfl) h i hi
    cases e
    refine ⟨g, 0, rfl, ?_⟩
    have := (hc 0 _ rfl).1
    simpa using this
  · obtain ⟨a, c, e, h1, _⟩ := owL_form h
    cases e
    exact h1
theorem box_str {w wr : World} {B : Nat} {u : Value} {l : List ByteArray} (v : ByteArray) (h : OwL cs1 9 1 wr B u l) (hb : Below B w wr) (hB : B ≤ w.heap.size) :
    OwL cs1 9 1 (wr.alloc (.cells #[.string v] 9)) B u l ∧ Below B w (wr.alloc (.cells #[.string v] 9)) ∧ B ≤ (wr.alloc (.cells #[.string v] 9)).heap.size ∧ RowV (wr.alloc (.cells #[.string v] 9)) wr.heap.size 9 (cs1 v) := by
  have hs := hb.size
  have hz : (wr.alloc (.cells #[.string v] 9)).heap.size = wr.heap.size + 1 := World.size_alloc _ _
  exact ⟨owL_below h ((Below.refl _ _).alloc (Nat.le_refl _) _), hb.alloc (by omega) _, by omega, rowV_new _ _ _⟩
theorem app_str {w wr w5 : World} {B g n cap : Nat} {u : Value} {l l' : List ByteArray} (h5 : OwL cs1 9 1 w5 B (.slice (some ⟨g, 0, none⟩) n cap) l') (ho : Only (fun j => u.ownBlock = some j) wr w5) (h : OwL cs1 9 1 wr B u l) (hb : Below B w wr) (hB : B ≤ wr.heap.size) :
    OwL cs1 9 1 w5 B (.slice (some ⟨g, 0, none⟩) n cap) l' ∧ Below B w w5 :=
  ⟨h5, hb.trans (ho.below (fun j _ e => (owL_lt h j e).1) hB)⟩
namespace Lx
def texts (L : List T) : List ByteArray := L.map fun t => mk (textL t)
theorem texts_join : ∀ L : List T, Lib.join ((texts L).map (·.data.toList)) [32] = join L
  | [] => rfl
  | [_] => by simp [texts, Lib.join, join]
  | t :: u :: l => by
    have ih := texts_join (u :: l)
    show Lib.join (textL t :: textL u :: ((texts l).map (·.data.toList))) [32] = textL t ++ 32 :: join (u :: l)
    rw [← ih]
    show _ = textL t ++ 32 :: Lib.join (textL u :: ((texts l).map (·.data.toList))) [32]
    simp [Lib.join]
theorem texts_next {L : List T} {k : Nat} (hk : k < L.length) : texts (L.take (k + 1)) = texts (L.take k) ++ [mk (textL L[k])] := by
  unfold texts
  rw [List.take_succ_eq_append_getElem hk, List.map_append]; rfl
theorem texts_len {L : List T} {k : Nat} (hk : k ≤ L.length) : (texts (L.take k)).length = k := by
  unfold texts; rw [List.length_map, List.length_take, Nat.min_eq_left hk]
end Lx
set_option maxRecDepth 100000 in
set_option maxHeartbeats 6400000 in
theorem join13_any (a : Option Addr) (L : List Lx.T) (c : Nat) (w : World) (hr : ReadsT13 w a L) (hL : L.length ≤ 1000000) (hS : ∀ t ∈ L, t.s.size ≤ 900000 ∧ -9223372036854775808 ≤ t.n ∧ t.n ≤ 9223372036854775807) (hP : Pow10 w) (hE : ErrR w) :
    Calls Tryd.prog 13 #[.slice a L.length c] w fun e w' => e = .returned (.tuple #[.string (Lx.joinS L).1, .int .i64 (Lx.joinS L).2]) ∧ Below w.heap.size w w' := by
  have hZ := Lx.join_size L fun t ht => (hS t ht).2.2
  have HPE := Lib.hid (And.intro hP hE)
  clear hP hE
  go_enter Tryd.func13, Tryd.ntmps13
  go_wp2_with fail
  go_loopw [4, 11] (fun o i wr => ∃ (k : Nat) (ao : Option Addr) (cp : Nat), k ≤ L.length ∧ i = .int .i64 (k : Int) ∧ o = .slice ao k cp ∧ Hid (Lx.RightTo L k) ∧ Hid (OwL cs1 9 1 wr w.heap.size (.slice ao k cp) (Lx.texts (L.take k)) ∧ Below w.heap.size w wr)) (fun _ i _ => L.length - (intOf i).toNat)
  case atStart => exact ⟨0, none, 0, Nat.zero_le _, rfl, rfl, Lib.hid (by intro t ht; simp at ht), Lib.hid ⟨owL_nil _, Below.refl _ _⟩⟩
  case round =>
    obtain ⟨k, ao, cp, hk, rfl, rfl, HX, HI⟩ := hrel
    by_cases hlt : k < L.length
    · obtain ⟨b, off, rfl, c0, c1, c2, c3⟩ := readsT13_at (readsT13_below hr HI.out.2) k hlt
      have hf := hS _ (List.getElem_mem hlt)
      have cT := fun wx h1 h2 => text13t_any L[k] hf.1 hf.2.1 hf.2.2 wx h1 h2
      have hlen := Lx.texts_len (Nat.le_of_lt hlt)
      have hnx := Lx.texts_next hlt
      have hbx := HI.out.2.alloc HI.out.2.size (.cells (tokC L[k]) 33)
      have hox := owL_below HI.out.1 ((Below.refl wr.heap.size wr).alloc (Nat.le_refl _) (.cells (tokC L[k]) 33))
      by_cases hx : Lx.right L[k]
      · rw [show Lx.textT L[k] = (Lx.mk (Lx.textL L[k]), 0) from if_pos hx] at cT
        dsimp only at cT
        have hN := Lx.rightTo_next HX.out hlt hx
        generalize Lx.mk (Lx.textL L[k]) = TX at *
        generalize L[k] = x at *
        obtain ⟨tk, ts, tn, ta⟩ := x
        have HC := Lib.hid (And.intro (cT _ (pow10_below HPE.out.1 hbx) (errR_below HPE.out.2 hbx)) (And.intro hbx (And.intro hox (And.intro hN hnx))))
        clear cT hf hx hN hbx hox hnx
        go_wp2_with fail
        refine HC.out.1.mono ?_
        rintro e w2 ⟨rfl, hb2⟩
        obtain ⟨p1, p2, p3, p4⟩ := box_str TX (owL_below HC.out.2.2.1 hb2) (HC.out.2.1.trans (hb2.mono HC.out.2.1.size)) (Nat.le_refl _)
        have HO := Lib.hid (And.intro p1 (And.intro p2 (And.intro p3 p4)))
        clear hb2 p1 p2 p3 p4 c0 c1 c2 c3
        go_wp2_with (at_builtin; refine wpList_append_one (f := cs1) (B := w.heap.size) str_elem rfl (.tmp 23) (.tmp 25) 46 rfl Tryd.underlying46 (.slice _ k cp) (Lx.texts (L.take k)) TX rfl HO.out.1 w2.heap.size 1 rfl HO.out.2.2.2 rfl (cs1_one _) (by rw [hlen]; omega) HO.out.2.2.1 ?_; intro gg cap w6 h1 h2 h3 h4; have HF := Lib.hid (And.intro h1 (And.intro h2 (And.intro h3 h4))); clear h1 h2 h3 h4; rw [hlen])
        obtain ⟨f1, f2⟩ := app_str (w := w) HF.out.1 HF.out.2.1 HO.out.1 HO.out.2.1 HO.out.2.2.1
        rw [hlen, ← HC.out.2.2.2.2] at f1
        have HG := Lib.hid (And.intro f1 f2)
        clear f1 f2
        go_wp2_with fail
        go_roundw
        case rel => exact ⟨k + 1, _, cap, by omega, by go_num, rfl, HC.out.2.2.2.1, HG⟩
        case measure => simp [intOf]; omega
      · rw [show Lx.textT L[k] = (Vl.mt, 2) from if_neg hx] at cT
        dsimp only at cT
        have hj := Lx.joinS_not hlt hx
        generalize L[k] = x at *
        obtain ⟨tk, ts, tn, ta⟩ := x
        have HC := Lib.hid (And.intro (cT _ (pow10_below HPE.out.1 hbx) (errR_below HPE.out.2 hbx)) (And.intro hbx hj))
        clear cT hf hx hbx hox hnx hj
        go_wp2_with fail
        refine HC.out.1.mono ?_
        rintro e w2 ⟨rfl, hb2⟩
        have HB := Lib.hid (HC.out.2.1.trans (hb2.mono HC.out.2.1.size))
        clear hb2
        go_wp2_with fail
        go_ret2
        exact ⟨by rw [HC.out.2.2]; rfl, HB.out⟩
    · obtain rfl : k = L.length := by omega
      have hfin := Lx.joinS_end HX.out (Nat.lt_irrefl _)
      have htl := Lx.texts_len (Nat.le_refl L.length)
      have hjn := Lx.texts_join (L.take L.length)
      have hz := hZ L.length HX.out
      have hz2 : (Lx.mk (Lx.join (L.take L.length))).size = (Lx.join (L.take L.length)).length := List.size_toArray
      obtain ⟨hrd, hcp⟩ := owL_readsS htl HI.out.1
      have cJ := strJoin_any ao (Lx.texts (L.take L.length)) cp ⟨#[32]⟩ wr hrd hcp (by omega) (by show (Lib.join _ [32]).length ≤ _; rw [hjn]; omega)
      rw [htl] at cJ
      have hjn2 : (⟨(Lib.join ((Lx.texts (L.take L.length)).map (·.data.toList)) (⟨#[32]⟩ : ByteArray).data.toList).toArray⟩ : ByteArray) = Lx.mk (Lx.join (L.take L.length)) := congrArg Lx.mk hjn
      rw [hjn2] at cJ
      have HF := Lib.hid (And.intro cJ (And.intro hfin HI.out.2))
      clear hfin htl hjn hz hz2 hrd hcp cJ hjn2
      go_wp2_with fail
      refine HF.out.1.mono ?_
      rintro e w2 ⟨rfl, hb2⟩
      have HB := Lib.hid (HF.out.2.2.trans (hb2.mono HF.out.2.2.size))
      clear hb2
      go_wp2_with fail
      go_ret2
      exact ⟨by rw [HF.out.2.1, List.take_length]; rfl, HB.out⟩
end Go.Proofs.YtmpfnokddpbgcaaDoor
