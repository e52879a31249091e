/-
  Layer 13: the document's tokens of a text.
-/
import Derived.Test.YtmpfnokddpbgcaaDoorZLexOne
import Derived.Test.YtmpfnokddpbgcaaDoorPk2
namespace Go.Proofs.YtmpfnokddpbgcaaDoor
open Go.RowKit
abbrev tCl (t : Lx.T) : List Value := [.int .i64 t.kind, .string t.s, .int .i64 t.n, .int .i64 t.spot]
theorem tok_parts : (Tryd.prog.info? 33).map (fun i => (i.zero, i.size, i.bytes)) = some (some (.agg #[.int .i64 0, .string ⟨#[]⟩, .int .i64 0, .int .i64 0]), 4, 40) := by kernel_rfl
theorem tok_elem : ElemOk Tryd.prog 33 4 40 := elemOk_of tok_parts rfl (by decide) (by decide)
theorem tCl_one (t : Lx.T) : ∀ u ∈ tCl t, u.oneCell' = true := by intro u hu; simp [tCl] at hu; rcases hu with rfl | rfl | rfl | rfl <;> rfl
/-- a slice of tokens, read -/
def ReadsT13 (w : World) (a : Option Addr) (L : List Lx.T) : Prop := ∀ i (h : i < L.length), ∃ b off, a = some ⟨b, off, none⟩ ∧ w.cell? ⟨b, off + i * 4, none⟩ = some (.int .i64 L[i].kind) ∧ w.cell? ⟨b, off + i * 4 + 1, none⟩ = some (.string L[i].s) ∧ w.cell? ⟨b, off + i * 4 + 2, none⟩ = some (.int .i64 L[i].n) ∧ w.cell? ⟨b, off + i * 4 + 3, none⟩ = some (.int .i64 L[i].spot)
theorem readsT13_none (w : World) (a : Option Addr) : ReadsT13 w a [] := by intro i hi; simp at hi
theorem readsT13_only {F : Nat → Prop} {w w' : World} {a : Option Addr} {L : List Lx.T} (h : ReadsT13 w a L) (ho : Only F w w') (hn : ∀ b, a = some b → ¬ F b.block) : ReadsT13 w' a L := by
  intro i hi
  obtain ⟨b, off, h1, h2, h3, h4, h5⟩ := h i hi
  have hF : ¬ F b := hn _ h1
  exact ⟨b, off, h1, (ho.cell (World.block_lt_of_cell? w _ h2) hF).trans h2, (ho.cell (World.block_lt_of_cell? w _ h3) hF).trans h3, (ho.cell (World.block_lt_of_cell? w _ h4) hF).trans h4, (ho.cell (World.block_lt_of_cell? w _ h5) hF).trans h5⟩
theorem readsT13_below {w w' : World} {a : Option Addr} {L : List Lx.T} (h : ReadsT13 w a L) (hb : Below w.heap.size w w') : ReadsT13 w' a L := readsT13_only h (Only.of_none (F := fun _ => False) hb) fun _ _ h => h
theorem owL_readsT13 {w : World} {B : Nat} {ao : Option Addr} {cp k : Nat} {L : List Lx.T} (hk : L.length = k) (h : OwL tCl 33 4 w B (.slice ao k cp) L) : ReadsT13 w ao L := by
  intro i hi
  obtain ⟨g, c, e, hc⟩ := owL_cell (f := tCl) (k := 4) (fun _ _ => rfl) h i hi
  cases e
  refine ⟨g, 0, rfl, ?_, ?_, ?_, ?_⟩
  · have := (hc 0 _ rfl).1; rw [Nat.zero_add]; exact this
  · have := (hc 1 _ rfl).1; rw [Nat.zero_add]; exact this
  · have := (hc 2 _ rfl).1; rw [Nat.zero_add]; exact this
  · have := (hc 3 _ rfl).1; rw [Nat.zero_add]; exact this
/-- what is answered as the tokens of a text -/
def LexPost (t : List Lx.T × Int × Int) (w : World) (e : Ending) (w' : World) : Prop := ∃ a cap, e = .returned (.tuple #[.slice a t.1.length cap, .int .i64 t.2.1, .int .i64 t.2.2]) ∧ ReadsT13 w' a t.1 ∧ t.1.length ≤ cap ∧ Below w.heap.size w w'
theorem lexPost_err {t : List Lx.T × Int × Int} {w w' : World} {p e : Int} (h : t = ([], p, e)) (hb : Below w.heap.size w w') : LexPost t w (.returned (.tuple #[.slice none 0 0, .int .i64 p, .int .i64 e])) w' := by
  subst h; exact ⟨none, 0, rfl, readsT13_none _ _, Nat.le_refl _, hb⟩
theorem lexPost_ok {t : List Lx.T × Int × Int} {L : List Lx.T} {w w' : World} {B k cp : Nat} {ao : Option Addr} (h : t = (L, 0, 0)) (hk : L.length = k) (hown : OwL tCl 33 4 w' B (.slice ao k cp) L) (hb : Below w.heap.size w w') : LexPost t w (.returned (.tuple #[.slice ao k cp, .int .i64 0, .int .i64 0])) w' := by
  subst h
  refine ⟨ao, cp, by rw [hk], owL_readsT13 hk hown, ?_, hb⟩
  obtain ⟨a, c, e, h1, _⟩ := owL_form hown
  cases e
  exact h1
theorem box_tok {w wr : World} {B : Nat} {u : Value} {l : List Lx.T} (v : Lx.T) (h : OwL tCl 33 4 wr B u l) (hb : Below B w wr) (hB : B ≤ w.heap.size) :
    OwL tCl 33 4 (wr.alloc (.cells (tokC v) 33)) B u l ∧ Below B w (wr.alloc (.cells (tokC v) 33)) ∧ B ≤ (wr.alloc (.cells (tokC v) 33)).heap.size ∧ RowV (wr.alloc (.cells (tokC v) 33)) wr.heap.size 33 (tCl v) := by
  have hs := hb.size
  have hz : (wr.alloc (.cells (tokC v) 33)).heap.size = wr.heap.size + 1 := World.size_alloc _ _
  exact ⟨owL_below h ((Below.refl _ _).alloc (Nat.le_refl _) _), hb.alloc (by omega) _, by omega, rowV_new _ _ _⟩
theorem app_tok {w wr w5 : World} {B g n cap : Nat} {u : Value} {l l' : List Lx.T} (h5 : OwL tCl 33 4 w5 B (.slice (some ⟨g, 0, none⟩) n cap) l') (ho : Only (fun j => u.ownBlock = some j) wr w5) (h : OwL tCl 33 4 wr B u l) (hb : Below B w wr) (hB : B ≤ wr.heap.size) :
    OwL tCl 33 4 w5 B (.slice (some ⟨g, 0, none⟩) n cap) l' ∧ Below B w w5 :=
  ⟨h5, hb.trans (ho.below (fun j _ e => (owL_lt h j e).1) hB)⟩
/-- the tokens of a text, or its error -/
def lexS (s : ByteArray) : List Lx.T × Int × Int := if 200 < s.size then ([], 0, 5) else Lx.lexAt 0 s.data.toList
set_option maxRecDepth 100000 in
set_option maxHeartbeats 6400000 in
theorem rlex13_any (s : ByteArray) (w : World) : Calls Tryd.prog 9 #[.string s] w (LexPost (lexS s) w) := by
  have hT : lexS s = if 200 < s.size then ([], 0, 5) else Lx.lexAt 0 s.data.toList := rfl
  generalize lexS s = T at *
  by_cases hl : (s.size : Int) > 200
  · rw [if_pos (by omega)] at hT
    have H := Lib.hid hT
    clear hT
    go_enter Tryd.func9, Tryd.ntmps9
    go_wp2_with fail
    go_ret3
    exact lexPost_err H.out (Below.refl _ _)
  · rw [if_neg (by omega), Lx.glue_form] at hT
    have HT := Lib.hid hT
    clear hT
    go_enter Tryd.func9, Tryd.ntmps9
    go_wp2_with fail
    go_loopw [5, 6, 7, 8, 9] (fun o i _ _ _ wr => ∃ (k n : Nat) (acc : List Lx.T) (ao : Option Addr) (cp : Nat), k ≤ s.size ∧ n ≤ k ∧ acc.length = n ∧ o = .slice ao n cp ∧ i = .int .i64 (k : Int) ∧ Hid (OwL tCl 33 4 wr w.heap.size (.slice ao n cp) acc ∧ Below w.heap.size w wr ∧ T = Lx.glue acc (Lx.lexAt k (s.data.toList.drop k)))) (fun _ i _ _ _ _ => s.size - (intOf i).toNat)
    case atStart => exact ⟨0, 0, [], none, 0, Nat.zero_le _, Nat.le_refl _, rfl, rfl, rfl, Lib.hid ⟨owL_nil _, Below.refl _ _, by rw [List.drop_zero]; exact HT.out⟩⟩
    case round =>
      obtain ⟨k, n, acc, ao, cp, hk, hnk, hacc, rfl, rfl, HI⟩ := hrel
      by_cases hlt : k < s.size
      · have hdn := drop_next s k hlt
        have hg := HI.out.2.2
        rw [hdn] at hg
        by_cases h32 : s[k] = 32
        · have t1 : ((s[k].toNat : Int) == 32) = true := by rw [h32]; rfl
          rw [h32, Lx.lexAt_blank] at hg
          have HN := Lib.hid hg
          clear hg h32 hdn
          go_wp2_with fail
          go_roundw
          case rel => exact ⟨k + 1, n, acc, ao, cp, by omega, by omega, hacc, rfl, by go_num, Lib.hid ⟨HI.out.1, HI.out.2.1, HN.out⟩⟩
          case measure => simp [intOf]; omega
        · have t1 : ((s[k].toNat : Int) == 32) = false := by
            have : ¬ s[k].toNat = 32 := fun e => h32 (UInt8.toNat_inj.1 e)
            simp; omega
          have hxs : (s.extract k s.size).size = s.size - k := by rw [ByteArray.size_extract]; omega
          have cO := fun wx => rone13_any (s.extract k s.size) wx (by omega) (by omega)
          have hxl : (s.extract k s.size).data.toList = s.data.toList.drop k := Oct.extract_drop s k
          rw [hxl] at cO
          by_cases he : (Lx.one (s.data.toList.drop k)).2.2 = 0
          · have hp := (Lx.one_ok he).2.2.1
            have hle := (Lx.one_ok he).2.2.2.1
            have hsl : s.data.toList.length = s.size := by rw [Array.length_toList]; rfl
            have hle2 : (Lx.one (s.data.toList.drop k)).2.1 ≤ s.size - k := by
              have h := List.length_drop (i := k) (l := s.data.toList)
              rw [hsl] at h
              rw [← h]; exact hle
            have he2 := he
            rw [hdn] at he2
            rw [Lx.glue_step acc h32 he2, ← hdn, List.drop_drop] at hg
            rw [he] at cO
            have hnp : 0 < (Lx.one (s.data.toList.drop k)).2.1 := hp
            generalize (Lx.one (s.data.toList.drop k)).2.1 = N at *
            generalize (Lx.one (s.data.toList.drop k)).1 = V at *
            obtain ⟨tk, ts, tn, ta⟩ := V
            have HN := Lib.hid (And.intro cO hg)
            clear cO hg hle hp he he2 hxl hdn h32 hxs hsl
            go_wp2_with fail
            refine (HN.out.1 _).mono ?_
            rintro e w2 ⟨rfl, hb2⟩
            obtain ⟨p1, p2, p3, p4⟩ := box_tok ⟨tk, ts, tn, (k : Int)⟩ (owL_below HI.out.1 hb2) (HI.out.2.1.trans (hb2.mono HI.out.2.1.size)) (Nat.le_refl _)
            have HP := Lib.hid (And.intro p1 (And.intro p2 (And.intro p3 p4)))
            clear hb2 p1 p2 p3 p4
            go_upto_region 12 with (fail)
            generalize hws : World.alloc w2 _ = ws at *
            obtain ⟨c0, c1, c2, c3, _⟩ := tok_cells (v := ⟨tk, ts, tn, (k : Int)⟩) HP.out.2.2.2
            obtain ⟨o1, o2, o3, o4⟩ := box_tok ⟨tk, ts, tn, (k : Int)⟩ HP.out.1 HP.out.2.1 (Nat.le_refl _)
            have HO := Lib.hid (And.intro o1 (And.intro o2 (And.intro o3 o4)))
            clear o1 o2 o3 o4 hws
            go_wp2_with (at_builtin; refine wpList_append_one (f := tCl) (B := w.heap.size) tok_elem rfl (.tmp 37) (.tmp 39) 23 rfl Tryd.underlying23 (.slice _ n cp) acc ⟨tk, ts, tn, (k : Int)⟩ rfl HO.out.1 ws.heap.size 1 rfl HO.out.2.2.2 rfl (tCl_one _) (by omega) HO.out.2.2.1 ?_; intro gg cap w6 h1 h2 h3 h4; have HF := Lib.hid (And.intro h1 (And.intro h2 (And.intro h3 h4))); clear h1 h2 h3 h4; rw [hacc])
            obtain ⟨f1, f2⟩ := app_tok (w := w) HF.out.1 HF.out.2.1 HO.out.1 HO.out.2.1 HO.out.2.2.1
            rw [hacc] at f1
            have HG := Lib.hid (And.intro f1 f2)
            clear f1 f2
            go_wp2_with fail
            go_roundw
            case rel => exact ⟨k + N, n + 1, acc ++ [⟨tk, ts, tn, (k : Int)⟩], _, cap, by omega, by omega, by rw [List.length_append, hacc]; rfl, rfl, by go_num, Lib.hid ⟨HG.out.1, HG.out.2, HN.out.2⟩⟩
            case measure => simp [intOf]; omega
          · have he2 := he
            rw [hdn] at he2
            rw [Lx.glue_err acc h32 he2, ← hdn] at hg
            have q1 : ((Lx.one (s.data.toList.drop k)).2.2 != 0) = true := by simpa using he
            generalize (Lx.one (s.data.toList.drop k)).2.1 = N at *
            generalize (Lx.one (s.data.toList.drop k)).2.2 = E at *
            generalize (Lx.one (s.data.toList.drop k)).1 = V at *
            obtain ⟨tk, ts, tn, ta⟩ := V
            have HN := Lib.hid (And.intro cO hg)
            clear cO hg he he2 hxl hdn h32 hxs
            go_wp2_with fail
            refine (HN.out.1 _).mono ?_
            rintro e w2 ⟨rfl, hb2⟩
            have hbw := HI.out.2.1.trans (hb2.mono HI.out.2.1.size)
            have HP := Lib.hid (hbw.alloc hbw.size (.cells (tokC ⟨tk, ts, tn, ta⟩) 33))
            clear hb2 hbw
            go_wp2_with fail
            go_ret3
            exact lexPost_err HN.out.2 HP.out
      · have HE : Hid (T = (acc, 0, 0)) := Lib.hid (by
          rw [HI.out.2.2, List.drop_eq_nil_of_le (by rw [Array.length_toList]; show s.size ≤ k; omega)]; exact Lx.glue_end acc k)
        go_wp2_with fail
        go_ret3
        exact lexPost_ok HE.out hacc HI.out.1 HI.out.2.1
end Go.Proofs.YtmpfnokddpbgcaaDoor
