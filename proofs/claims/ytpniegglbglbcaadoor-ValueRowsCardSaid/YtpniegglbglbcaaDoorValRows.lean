/-
  Layer 12: rows of values in memory; a row off the front, the program's and the document's.
-/
import Derived.Test.YtpniegglbglbcaaDoorValTake
import Derived.Test.YtpniegglbglbcaaDoorAppOne
import Derived.Test.YtpniegglbglbcaaDoorSlice1
namespace Go.Proofs.YtpniegglbglbcaaDoor
open Go.RowKit
abbrev vCl (v : Vl.V) : List Value := [.int .i64 v.kind, .int .i64 v.n, .string v.s]
theorem val_parts : (Tryd.prog.info? 24).map (fun i => (i.zero, i.size, i.bytes)) = some (some (.agg #[.int .i64 0, .int .i64 0, .string ⟨#[]⟩]), 3, 32) := by kernel_rfl
theorem val_elem : ElemOk Tryd.prog 24 3 32 := elemOk_of val_parts rfl (by decide) (by decide)
theorem vCl_one (v : Vl.V) : ∀ u ∈ vCl v, u.oneCell' = true := by intro u hu; simp [vCl] at hu; rcases hu with rfl | rfl | rfl <;> rfl
/-- a slice of values, read -/
def ReadsV (w : World) (a : Option Addr) (L : List Vl.V) : Prop := ∀ i (h : i < L.length), ∃ b off, a = some ⟨b, off, none⟩ ∧ w.cell? ⟨b, off + i * 3, none⟩ = some (.int .i64 L[i].kind) ∧ w.cell? ⟨b, off + i * 3 + 1, none⟩ = some (.int .i64 L[i].n) ∧ w.cell? ⟨b, off + i * 3 + 2, none⟩ = some (.string L[i].s)
theorem readsV_none (w : World) (a : Option Addr) : ReadsV w a [] := by intro i hi; simp at hi
theorem readsV_only {F : Nat → Prop} {w w' : World} {a : Option Addr} {L : List Vl.V} (h : ReadsV w a L) (ho : Only F w w') (hn : ∀ b, a = some b → ¬ F b.block) : ReadsV w' a L := by
  intro i hi
  obtain ⟨b, off, h1, h2, h3, h4⟩ := h i hi
  have hF : ¬ F b := hn _ h1
  exact ⟨b, off, h1, (ho.cell (World.block_lt_of_cell? w _ h2) hF).trans h2, (ho.cell (World.block_lt_of_cell? w _ h3) hF).trans h3, (ho.cell (World.block_lt_of_cell? w _ h4) hF).trans h4⟩
theorem readsV_below {w w' : World} {a : Option Addr} {L : List Vl.V} (h : ReadsV w a L) (hb : Below w.heap.size w w') : ReadsV w' a L := readsV_only h (Only.of_none (F := fun _ => False) hb) fun _ _ h => h
theorem owL_readsV {w : World} {B : Nat} {ao : Option Addr} {cp k : Nat} {L : List Vl.V} (hk : L.length = k) (h : OwL vCl 24 3 w B (.slice ao k cp) L) : ReadsV w ao L := by
  intro i hi
  obtain ⟨g, c, e, hc⟩ := owL_cell (f := vCl) (k := 3) (fun _ _ => rfl) h i hi
  cases e
  refine ⟨g, 0, rfl, ?_, ?_, ?_⟩
  · have := (hc 0 _ rfl).1; rw [Nat.zero_add]; exact this
  · have := (hc 1 _ rfl).1; rw [Nat.zero_add]; exact this
  · have := (hc 2 _ rfl).1; rw [Nat.zero_add]; exact this
/-- what is answered as a row off the front -/
def RowPost (t : List Vl.V × ByteArray × Int) (w : World) (e : Ending) (w' : World) : Prop := ∃ a cap, e = .returned (.tuple #[.slice a t.1.length cap, .string t.2.1, .int .i64 t.2.2]) ∧ ReadsV w' a t.1 ∧ t.1.length ≤ cap ∧ Below w.heap.size w w'
theorem rowPost_err {t : List Vl.V × ByteArray × Int} {w w' : World} {e : Int} (h : t = ([], Vl.mt, e)) (hb : Below w.heap.size w w') : RowPost t w (.returned (.tuple #[.slice none 0 0, .string Vl.mt, .int .i64 e])) w' := by
  subst h; exact ⟨none, 0, rfl, readsV_none _ _, Nat.le_refl _, hb⟩
theorem rowPost_ok {t : List Vl.V × ByteArray × Int} {L : List Vl.V} {R : ByteArray} {w w' : World} {B k cp : Nat} {ao : Option Addr} (h : t = (L, R, 0)) (hk : L.length = k) (hown : OwL vCl 24 3 w' B (.slice ao k cp) L) (hb : Below w.heap.size w w') : RowPost t w (.returned (.tuple #[.slice ao k cp, .string R, .int .i64 0])) w' := by
  subst h
  refine ⟨ao, cp, by rw [hk], owL_readsV hk hown, ?_, hb⟩
  obtain ⟨a, c, e, h1, _⟩ := owL_form hown
  cases e
  exact h1
theorem ret3v {a a' : Option Addr} {k k' c c' : Nat} {R R' : ByteArray} {e e' : Int} (h : a = a' ∧ k = k' ∧ c = c' ∧ R = R' ∧ e = e') : Ending.returned (.tuple #[.slice a k c, .string R, .int .i64 e]) = .returned (.tuple #[.slice a' k' c', .string R', .int .i64 e']) := by
  obtain ⟨rfl, rfl, rfl, rfl, rfl⟩ := h; rfl
/-- behind an append of a new box -/
theorem box_val {w wr : World} {B : Nat} {u : Value} {l : List Vl.V} (v : Vl.V) (h : OwL vCl 24 3 wr B u l) (hb : Below B w wr) (hB : B ≤ w.heap.size) :
    OwL vCl 24 3 (wr.alloc (.cells (valC v) 24)) B u l ∧ Below B w (wr.alloc (.cells (valC v) 24)) ∧ B ≤ (wr.alloc (.cells (valC v) 24)).heap.size ∧ RowV (wr.alloc (.cells (valC v) 24)) wr.heap.size 24 (vCl v) := by
  have hs := hb.size
  have hz : (wr.alloc (.cells (valC v) 24)).heap.size = wr.heap.size + 1 := World.size_alloc _ _
  exact ⟨owL_below h ((Below.refl _ _).alloc (Nat.le_refl _) _), hb.alloc (by omega) _, by omega, rowV_new _ _ _⟩
theorem app_val {w wr w5 : World} {B g n cap : Nat} {u : Value} {l l' : List Vl.V} (h5 : OwL vCl 24 3 w5 B (.slice (some ⟨g, 0, none⟩) n cap) l') (ho : Only (fun j => u.ownBlock = some j) wr w5) (h : OwL vCl 24 3 wr B u l) (hb : Below B w wr) (hB : B ≤ wr.heap.size) :
    OwL vCl 24 3 w5 B (.slice (some ⟨g, 0, none⟩) n cap) l' ∧ Below B w w5 :=
  ⟨h5, hb.trans (ho.below (fun j _ e => (owL_lt h j e).1) hB)⟩
/-- a value stored into a box that is not the row's -/
theorem put_val {w wr : World} {B G : Nat} {u : Value} {l : List Vl.V} {v0 : Vl.V} (k n : Int) (s : ByteArray) (h : OwL vCl 24 3 wr B u l) (hb : Below B w wr) (hr : RowV wr G 24 (valC v0).toList) (hG : B ≤ G) (hn : u.ownBlock ≠ some G) :
    OwL vCl 24 3 (((wr.setCell ⟨G, 0, none⟩ (.int .i64 k)).setCell ⟨G, 1, none⟩ (.int .i64 n)).setCell ⟨G, 2, none⟩ (.string s)) B u l ∧
    RowV (((wr.setCell ⟨G, 0, none⟩ (.int .i64 k)).setCell ⟨G, 1, none⟩ (.int .i64 n)).setCell ⟨G, 2, none⟩ (.string s)) G 24 (valC ⟨k, n, s⟩).toList ∧
    Below B w (((wr.setCell ⟨G, 0, none⟩ (.int .i64 k)).setCell ⟨G, 1, none⟩ (.int .i64 n)).setCell ⟨G, 2, none⟩ (.string s)) := by
  obtain ⟨p1, p2⟩ := val_put hr k n s
  refine ⟨owL_only (F := fun j => j = G) h (Only.setCell (F := fun j => j = G) (g := G) (i := 2) (Only.setCell (F := fun j => j = G) (g := G) (i := 1) (Only.setCell (F := fun j => j = G) (g := G) (i := 0) (Only.refl _ wr) (fun _ => rfl) _) (fun _ => rfl) _) (fun _ => rfl) _) (fun j e hj => ?_), p1, hb.trans (p2 B hG)⟩
  subst hj; exact hn e
theorem take12_size (r : ByteArray) : (Vl.take r).2.1.size ≤ r.size := by
  rcases Vl.take_ok r with ⟨_, _, h⟩ | ⟨_, _, h⟩
  · have := congrArg ByteArray.size h
    rw [ByteArray.size_append] at this; omega
  · rw [h]; exact Nat.zero_le _
/-- a string of a value -/
def strOf : Value → ByteArray | .string s => s | _ => Vl.mt
theorem tN12_range (s : ByteArray) : -9223372036854775808 ≤ Oct.tN s ∧ Oct.tN s ≤ 9223372036854775807 := by
  rcases Oct.t_cases s with ⟨h, _, _⟩ | ⟨n, r, h1, h2, _, h3, _⟩
  · rw [h]; omega
  · rw [h3]; omega
set_option maxRecDepth 100000 in
set_option maxHeartbeats 6400000 in
theorem takeRow12_any (s : ByteArray) (most : Int) (w : World) (hs : s.size ≤ 100000) :
    Calls Tryd.prog 17 #[.string s, .int .i64 most] w (RowPost (Vl.takeRow s most) w) := by
  have z1 := tR12_size s
  have h1 := fun w => takeNum_any s w (by unfold maxLen; omega)
  have hT : Vl.takeRow s most = if Oct.tE s ≠ 0 then ([], Vl.mt, Oct.tE s) else if Oct.tN s < 0 then ([], Vl.mt, 4) else if most < Oct.tN s then ([], Vl.mt, 5) else Vl.rows (Oct.tN s).toNat (Oct.tR s) := rfl
  generalize Vl.takeRow s most = T at *
  have hrange := tN12_range s
  by_cases e1 : Oct.tE s = 0
  · rw [if_neg (fun x => x e1)] at hT
    rw [e1] at h1
    generalize Oct.tN s = C at *
    generalize Oct.tR s = R0 at *
    by_cases c0 : C < 0
    · rw [if_pos c0] at hT
      have H := Lib.hid (And.intro h1 hT)
      clear h1 hT e1
      go_enter Tryd.func17, Tryd.ntmps17
      go_wp2_with fail
      refine (H.out.1 _).mono ?_
      rintro e _ ⟨rfl, n0, rfl⟩
      go_wp2_with fail
      go_ret3
      exact rowPost_err H.out.2 (below_drewN (Below.refl _ _) n0)
    · rw [if_neg c0] at hT
      by_cases c1 : C > most
      · rw [if_pos c1] at hT
        have H := Lib.hid (And.intro h1 hT)
        clear h1 hT e1
        go_enter Tryd.func17, Tryd.ntmps17
        go_wp2_with fail
        refine (H.out.1 _).mono ?_
        rintro e _ ⟨rfl, n0, rfl⟩
        go_wp2_with fail
        go_ret3
        exact rowPost_err H.out.2 (below_drewN (Below.refl _ _) n0)
      · rw [if_neg c1] at hT
        obtain ⟨n, rfl⟩ : ∃ n : Nat, C = (n : Int) := ⟨C.toNat, by omega⟩
        rw [Int.toNat_natCast, Vl.rows_form] at hT
        have HT := Lib.hid hT
        have H := Lib.hid h1
        clear h1 hT e1 c0
        go_enter Tryd.func17, Tryd.ntmps17
        go_wp2_with fail
        refine (H.out _).mono ?_
        rintro e _ ⟨rfl, n0, rfl⟩
        have hb0 := Lib.hid (below_drewN (Below.refl w.heap.size w) n0)
        go_wp2_with fail
        generalize World.drewN w n0 = wa at *
        go_loopw [8, 9, 10, 11, 30] (fun r e l _ i wr => ∃ (k : Nat) (acc : List Vl.V) (ao : Option Addr) (cp : Nat) (R : ByteArray), k ≤ n ∧ acc.length = k ∧ r = .string R ∧ e = .int .i64 0 ∧ l = .slice ao k cp ∧ i = .int .i64 (k : Int) ∧ k + R.size ≤ s.size ∧ Hid (OwL vCl 24 3 wr w.heap.size (.slice ao k cp) acc ∧ Below w.heap.size w wr ∧ T = Vl.glue acc (Vl.rows (n - k) R))) (fun r _ _ _ _ _ => (strOf r).size)
        case atStart => exact ⟨0, [], none, 0, R0, Nat.zero_le _, rfl, rfl, rfl, rfl, rfl, by omega, Lib.hid ⟨owL_nil _, hb0.out, by rw [Nat.sub_zero]; exact HT.out⟩⟩
        case round =>
          obtain ⟨k, acc, ao, cp, R, hk, hacc, rfl, rfl, rfl, rfl, hR, HI⟩ := hrel
          by_cases hlt : k < n
          · obtain ⟨r0, b0, s0⟩ := val_new Vl.no wr
            have hown1 := owL_below HI.out.1 b0
            have hb1 := HI.out.2.1.trans (b0.mono HI.out.2.1.size)
            have hnb : (Value.slice ao k cp).ownBlock ≠ some wr.heap.size := fun e => by have := (owL_lt HI.out.1 _ e).2; omega
            have cT := fun wx => take12_any R wx (by unfold maxLen; omega)
            have hts := take12_size R
            by_cases e1 : (Vl.take R).2.2 = 0
            · have hless := Vl.take_less e1
              have hgl := Vl.glue_step acc (n - (k + 1)) R e1
              rw [show n - (k + 1) + 1 = n - k by omega] at hgl
              rw [e1] at cT
              clear e1
              generalize hV : (Vl.take R).1 = V at *
              generalize hR2 : (Vl.take R).2.1 = R2 at *
              obtain ⟨vk, vn, vs⟩ := V
              have HN := Lib.hid (And.intro r0 (And.intro hown1 (And.intro hb1 (And.intro cT (And.intro hgl hnb)))))
              have hws : wr.heap.size < (wr.alloc (.cells (valC Vl.no) 24)).heap.size := by rw [s0]; omega
              clear r0 b0 s0 hown1 hb1 cT hgl hnb hV hR2 hts
              go_wp2_with fail
              refine (HN.out.2.2.2.1 _).mono ?_
              rintro e w2 ⟨rfl, hb2⟩
              have ra := rowV_below HN.out.1 hb2 hws
              obtain ⟨a0, a1, a2, g0, g1, g2⟩ := val_cells ra
              obtain ⟨p1, p2, p3⟩ := put_val (w := w) vk vn vs (owL_below HN.out.2.1 hb2) (HN.out.2.2.1.trans (hb2.mono HN.out.2.2.1.size)) ra HI.out.2.1.size HN.out.2.2.2.2.2
              have HP := Lib.hid (And.intro p1 (And.intro p2 p3))
              clear ra hb2 p1 p2 p3 hws
              go_upto_region 13 with (fail)
              generalize hws : World.setCell (World.setCell (World.setCell w2 _ _) _ _) _ _ = ws at *
              obtain ⟨c0, c1, c2, d0, d1, d2⟩ := val_cells (v := ⟨vk, vn, vs⟩) HP.out.2.1
              have hBs : w.heap.size ≤ ws.heap.size := HP.out.2.2.size
              obtain ⟨o1, o2, o3, o4⟩ := box_val ⟨vk, vn, vs⟩ HP.out.1 HP.out.2.2 (Nat.le_refl _)
              have HO := Lib.hid (And.intro o1 (And.intro o2 (And.intro o3 o4)))
              clear o1 o2 o3 o4 hws a0 a1 a2 g0 g1 g2
              go_wp2_with (at_builtin; refine wpList_append_one (f := vCl) (B := w.heap.size) val_elem rfl (.tmp 41) (.tmp 43) 36 rfl Tryd.underlying36 (.slice ao k cp) acc ⟨vk, vn, vs⟩ rfl HO.out.1 ws.heap.size 1 rfl HO.out.2.2.2 rfl (vCl_one _) (by omega) HO.out.2.2.1 ?_; intro gg cap w6 h1 h2 h3 h4; have HF := Lib.hid (And.intro h1 (And.intro h2 (And.intro h3 h4))); clear h1 h2 h3 h4; rw [hacc])
              obtain ⟨f1, f2⟩ := app_val (w := w) HF.out.1 HF.out.2.1 HO.out.1 HO.out.2.1 HO.out.2.2.1
              rw [hacc] at f1
              have HG := Lib.hid (And.intro f1 f2)
              clear f1 f2
              go_wp2_with fail
              go_roundw
              case rel => exact ⟨k + 1, acc ++ [⟨vk, vn, vs⟩], _, cap, R2, by omega, by rw [List.length_append, hacc]; rfl, rfl, rfl, rfl, by go_num, by omega, Lib.hid ⟨HG.out.1, HG.out.2, HI.out.2.2.trans HN.out.2.2.2.2.1⟩⟩
              case measure => show R2.size < R.size; exact hless
            · have hgl := Vl.glue_err acc (n - (k + 1)) R e1
              rw [show n - (k + 1) + 1 = n - k by omega] at hgl
              have q1 : ((Vl.take R).2.2 != 0) = true := by simpa using e1
              clear e1
              generalize hV : (Vl.take R).1 = V at *
              generalize hR2 : (Vl.take R).2.1 = R2 at *
              generalize hE2 : (Vl.take R).2.2 = E2 at *
              obtain ⟨vk, vn, vs⟩ := V
              have HN := Lib.hid (And.intro r0 (And.intro hown1 (And.intro hb1 (And.intro cT (And.intro hgl hnb)))))
              have hws : wr.heap.size < (wr.alloc (.cells (valC Vl.no) 24)).heap.size := by rw [s0]; omega
              clear r0 b0 s0 hown1 hb1 cT hgl hnb hV hR2 hE2 hts
              go_wp2_with fail
              refine (HN.out.2.2.2.1 _).mono ?_
              rintro e w2 ⟨rfl, hb2⟩
              have ra := rowV_below HN.out.1 hb2 hws
              obtain ⟨a0, a1, a2, g0, g1, g2⟩ := val_cells ra
              obtain ⟨p1, p2, p3⟩ := put_val (w := w) vk vn vs (owL_below HN.out.2.1 hb2) (HN.out.2.2.1.trans (hb2.mono HN.out.2.2.1.size)) ra HI.out.2.1.size HN.out.2.2.2.2.2
              have HP := Lib.hid p3
              clear ra hb2 p1 p2 p3 hws
              go_wp2_with fail
              go_ret3
              exact rowPost_err (HI.out.2.2.trans HN.out.2.2.2.2.1) HP.out
          · obtain rfl : k = n := by omega
            have HE : Hid (T = (acc, R, 0)) := Lib.hid (HI.out.2.2.trans (by rw [Nat.sub_self]; exact Vl.glue_end acc R))
            go_wp2_with fail
            go_ret3
            exact rowPost_ok HE.out hacc HI.out.1 HI.out.2.1
  · rw [if_pos e1] at hT
    have q1 : (Oct.tE s != 0) = true := by simpa using e1
    generalize Oct.tE s = E1 at *
    have H := Lib.hid (And.intro h1 hT)
    clear h1 hT e1
    go_enter Tryd.func17, Tryd.ntmps17
    go_wp2_with fail
    refine (H.out.1 _).mono ?_
    rintro e _ ⟨rfl, n0, rfl⟩
    go_wp2_with fail
    go_ret3
    exact rowPost_err H.out.2 (below_drewN (Below.refl _ _) n0)
end Go.Proofs.YtpniegglbglbcaaDoor
