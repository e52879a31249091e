/-
  Layer 1: what TakeTexts answers (the program's and the document's), where the text has no more than 1048576 bytes.
-/
import Derived.Test.YtjppicochahjoaaOctTxt
import Derived.Test.YtjppicochahjoaaOctOwn
import Derived.WalkSmall
namespace Go.Proofs.Ytjppicochahjoaa
open Go.RowKit

theorem Try.info9 : (Try.prog.info? 9).map (fun i => (i.zero, i.size, i.bytes)) = some (some (.string ⟨#[]⟩), 1, 16) := by kernel_rfl

/-- the slice v of strings (element type E), from block B on, holds l -/
def OwnsS (w : World) (B E : Nat) (v : Value) (l : List ByteArray) : Prop := w.ownsRow B E 1 v l.length (l.map Value.string)
theorem ownsS_nil (w : World) (B E : Nat) : OwnsS w B E (.slice none 0 0) [] := World.ownsRow_nil _ _ _ _
theorem ownsS_form {w : World} {B E : Nat} {v : Value} {l : List ByteArray} (h : OwnsS w B E v l) : ∃ a cap, v = .slice a l.length cap := by
  rcases h.2 with ⟨h1, h2⟩ | ⟨g, cap, cur, h1, _⟩
  · rw [h2]; exact ⟨_, _, h1⟩
  · exact ⟨_, _, h1⟩
theorem ownsS_row {w : World} {B E : Nat} {v : Value} {l : List ByteArray} (h : OwnsS w B E v l) (n : Nat) (o : Obj) :
    ((w.drewN n).alloc o).ownsRow B E 1 v l.length (l.map Value.string) := World.ownsRow.alloc (w := w.drewN n) h o
theorem ownsS_snoc {w : World} {B E : Nat} {v : Value} {l : List ByteArray} {a : ByteArray} (h : w.ownsRow B E 1 v (l.length + 1) (l.map Value.string ++ [.string a])) : OwnsS w B E v (l ++ [a]) := by
  unfold OwnsS; simpa using h
theorem belowS_grown {B E : Nat} {w wr w1 : World} {v : Value} {l : List ByteArray} {o : Obj} (hb : Below B w wr) (hB : B ≤ wr.heap.size) (hown : OwnsS wr B E v l) (hg : (wr.alloc o).grownBy w1 v.ownBlock) : Below B w w1 :=
  (hb.alloc hB o).grown hg (by simp; omega) (fun j hj => (hown.lt j hj).1)
theorem one_cell_s {s : ByteArray} : ∀ u ∈ [Value.string s], u.oneCell' = true := by intro u hu; simp at hu; subst hu; rfl

/-- a slice's length -/
def lenOf : Value → Nat
  | .slice _ n _ => n
  | _ => 0

/-- what TakeTexts leaves -/
def TextsPost (s : ByteArray) (count most : Int) (w : World) (e : Ending) (w' : World) : Prop :=
  ∃ v, e = .returned (.tuple #[v, .string (Oct.txts s count most).2.1, .int .i64 (Oct.txts s count most).2.2]) ∧ OwnsS w' w.heap.size 9 v (Oct.txts s count most).1 ∧ Below w.heap.size w w'
theorem textsPost_mk {s : ByteArray} {count most : Int} {w w' : World} {v : Value} {l : List ByteArray} {r : ByteArray} {e : Int}
    (h : Oct.txts s count most = (l, r, e)) (ho : OwnsS w' w.heap.size 9 v l) (hb : Below w.heap.size w w') : TextsPost s count most w (.returned (.tuple #[v, .string r, .int .i64 e])) w' := by
  unfold TextsPost; rw [h]; exact ⟨v, rfl, ho, hb⟩

set_option maxRecDepth 100000 in
set_option maxHeartbeats 800000 in
theorem takeTexts_any (s : ByteArray) (count most : Int) (w : World) (hs : s.size ≤ 1048576) :
    Calls Try.prog 16 #[.string s, .int .i64 count, .int .i64 most] w (TextsPost s count most w) := by
  obtain ⟨i0, hi, hz0, hz1, hz2⟩ := info_parts Try.info9
  have hsm : s.size ≤ maxLen := by unfold maxLen; omega
  have HI := Lib.hid (And.intro hi (And.intro hz0 (And.intro hz1 (And.intro hz2 hsm))))
  clear hi hz0 hz1 hz2 hsm
  rcases Oct.cnt3_cases s count with ⟨e, he, h⟩ | ⟨n, r, h1, h2, h3, h, _⟩
  · have E := Lib.hid h
    have F : Hid (Oct.txts s count most = ([], ⟨#[]⟩, e)) := Lib.hid (by unfold Oct.txts; rw [h]; exact if_pos he)
    have ht : (e != 0) = true := by simpa using he
    clear h he
    go_enter Try.func16, Try.ntmps16
    go_wp2_with fail
    refine (takeCount_any s count _ HI.out.2.2.2.2).mono ?_
    rintro e w1 ⟨he, nd, hw⟩
    subst hw
    rw [E.out] at he
    subst he
    go_wp2_with fail
    go_ret3
    exact textsPost_mk F.out (ownsS_nil _ _ _) (below_drewN (Below.refl _ _) nd)
  · have E := Lib.hid h
    have F : Hid (Oct.txts s count most = Oct.lst most n r) := Lib.hid (by unfold Oct.txts; rw [h]; simp)
    clear h
    go_enter Try.func16, Try.ntmps16
    go_wp2_with fail
    refine (takeCount_any s count _ HI.out.2.2.2.2).mono ?_
    rintro e w1 ⟨he, nd, hw⟩
    subst hw
    rw [E.out] at he
    subst he
    go_wp2_with fail
    go_loopw [10, 12, 25] (fun rs v i wr => ∃ (k : Nat) (acc : List ByteArray) (rest : ByteArray), k ≤ n ∧ i = .int .i64 k ∧ rs = .string rest ∧ OwnsS wr w.heap.size 9 v acc ∧ Below w.heap.size w wr ∧
        acc.length + rest.size ≤ s.size ∧ Hid (Oct.lst most n r = Oct.glue acc (Oct.lst most (n - k) rest)))
      (fun _ _ i _ => n - (intOf i).toNat)
    case atStart => exact ⟨0, [], r, by omega, rfl, rfl, ownsS_nil _ _ _, below_drewN (Below.refl _ _) nd, by simp; omega, Lib.hid (Oct.lst_form most n r)⟩
    case round =>
      obtain ⟨k, acc, rest, hk, rfl, rfl, hown, hb, hlen, HG⟩ := hrel
      by_cases hlt : k < n
      · obtain ⟨q, hq⟩ : ∃ q, n - k = q + 1 := ⟨n - k - 1, by omega⟩
        have hq2 : q = n - (k + 1) := by omega
        have hrm : rest.size ≤ maxLen := by unfold maxLen; omega
        rcases Oct.txt_cases rest most with ⟨e, he, ht⟩ | ⟨a, r2, ht, hr2, ha⟩
        · have HE := Lib.hid ht
          have HF : Hid (Oct.txts s count most = ([], ⟨#[]⟩, e)) := Lib.hid (by rw [F.out, HG.out, hq, Oct.glue_err most acc q rest he ht])
          have hte : (e != 0) = true := by simpa using he
          clear ht he hq hq2
          have HB := Lib.hid (And.intro hb hrm); clear hb hown hrm
          go_wp2_with fail
          refine (takeText_any rest most _ HB.out.2).mono ?_
          rintro e w1 ⟨he, nd2, hw⟩
          subst hw
          rw [HE.out] at he
          subst he
          go_wp2_with fail
          go_ret3
          exact textsPost_mk HF.out (ownsS_nil _ _ _) (below_drewN HB.out.1 nd2)
        · have HE := Lib.hid ht
          have HG2 : Hid (Oct.lst most n r = Oct.glue (acc ++ [a]) (Oct.lst most (n - (k + 1)) r2)) := Lib.hid (by rw [HG.out, hq, Oct.glue_step most acc q rest ht, hq2])
          have hl2 : (acc ++ [a]).length + r2.size ≤ s.size := by simp; omega
          have HL := Lib.hid (And.intro hl2 hrm)
          have hsz := hb.size
          have hbd : acc.length + 1 ≤ 1048577 := by omega
          clear ht hq hq2 hrm hl2
          go_wp2_with fail
          refine (takeText_any rest most _ HL.out.2).mono ?_
          rintro e w1 ⟨he, nd2, hw⟩
          subst hw
          rw [HE.out] at he
          subst he
          go_wp2_with (at_builtin; go_loud (refine wpList_append_own _ rfl _ _ 34 rfl w.heap.size 9 i0 (.string ⟨#[]⟩) 1 16 Try.underlying34 HI.out.1 HI.out.2.1 HI.out.2.2.1 HI.out.2.2.2.1 rfl (by decide) _ _ _ rfl (ownsS_row hown _ _) ⟨wr.heap.size, 0, none⟩ 1 1 [.string a] rfl rfl cell_one one_cell_s (by unfold maxLen; omega) (by omega) (by simp; omega) ?_))
          intro v' w2 hown' hgrow _
          have ho := ownsS_snoc hown'
          have hb2 : Below w.heap.size w w2 := belowS_grown (wr := wr.drewN nd2) (below_drewN hb nd2) (by simpa using hsz) hown hgrow
          have HF2 := Lib.hid hb2
          clear hown' hgrow hb2 hown hb
          go_wp2_with fail
          go_roundw
          case rel => exact ⟨k + 1, _, r2, by omega, by go_num, rfl, ho, HF2.out, HL.out.1, HG2⟩
          case measure => simp [intOf]; omega
      · have HF : Hid (Oct.txts s count most = (acc, rest, 0)) := Lib.hid (by rw [F.out, HG.out, show n - k = 0 from by omega, Oct.glue_end])
        have HB := Lib.hid (And.intro hown hb); clear hb hown
        go_wp2_with fail
        go_ret3
        exact textsPost_mk HF.out HB.out.1 HB.out.2

theorem txts_err {s : ByteArray} {count most e : Int} (he : e ≠ 0) (h : Oct.cnt3 s count = (0, ⟨#[]⟩, e)) : Oct.txts s count most = ([], ⟨#[]⟩, e) := by
  unfold Oct.txts; rw [h]; exact if_pos he
theorem txts_ok {s r : ByteArray} {count most : Int} {n : Nat} (h : Oct.cnt3 s count = ((n : Int), r, 0)) : Oct.txts s count most = Oct.lst most n r := by
  unfold Oct.txts; rw [h]; simp

set_option maxRecDepth 100000 in
set_option maxHeartbeats 800000 in
theorem rtakeTexts_any (s : ByteArray) (count most : Int) (w : World) (hs : s.size ≤ 1048576) :
    Calls Try.prog 17 #[.string s, .int .i64 count, .int .i64 most] w (TextsPost s count most w) := by
  obtain ⟨i0, hi, hz0, hz1, hz2⟩ := info_parts Try.info9
  have hsm : s.size ≤ maxLen := by unfold maxLen; omega
  have HI := Lib.hid (And.intro hi (And.intro hz0 (And.intro hz1 (And.intro hz2 hsm))))
  clear hi hz0 hz1 hz2 hsm
  rcases Oct.t_cases s with ⟨e1, e2, e3 | e3⟩ | ⟨n, r, h1, h2, h3, e1, e2, e3, e4⟩
  · have E := Lib.hid (And.intro e1 (And.intro e2 e3))
    have F := Lib.hid (txts_err (most := most) (by decide) (Oct.cnt3_err (lim := count) 3 e3 (by decide))); clear e1 e2 e3
    go_enter Try.func17, Try.ntmps17
    go_wp2_with fail
    refine (rtakeNum_any s _ HI.out.2.2.2.2).mono ?_
    rintro e w1 ⟨he, nd, hw⟩
    subst hw
    rw [E.out.1, E.out.2.1, E.out.2.2] at he
    subst he
    go_wp2_with fail
    go_ret3
    exact textsPost_mk F.out (ownsS_nil _ _ _) (below_drewN (Below.refl _ _) nd)
  · have E := Lib.hid (And.intro e1 (And.intro e2 e3))
    have F := Lib.hid (txts_err (most := most) (by decide) (Oct.cnt3_err (lim := count) 4 e3 (by decide))); clear e1 e2 e3
    go_enter Try.func17, Try.ntmps17
    go_wp2_with fail
    refine (rtakeNum_any s _ HI.out.2.2.2.2).mono ?_
    rintro e w1 ⟨he, nd, hw⟩
    subst hw
    rw [E.out.1, E.out.2.1, E.out.2.2] at he
    subst he
    go_wp2_with fail
    go_ret3
    exact textsPost_mk F.out (ownsS_nil _ _ _) (below_drewN (Below.refl _ _) nd)
  · have E := Lib.hid (And.intro e1 (And.intro e2 e3))
    by_cases h0 : n < 0
    · have F := Lib.hid (txts_err (most := most) (by decide) (Oct.cnt3_neg (lim := count) e3 e1 h0))
      clear e1 e2 e3 e4
      go_enter Try.func17, Try.ntmps17
      go_wp2_with fail
      refine (rtakeNum_any s _ HI.out.2.2.2.2).mono ?_
      rintro e w1 ⟨he, nd, hw⟩
      subst hw
      rw [E.out.1, E.out.2.1, E.out.2.2] at he
      subst he
      go_wp2_with fail
      go_ret3
      exact textsPost_mk F.out (ownsS_nil _ _ _) (below_drewN (Below.refl _ _) nd)
    · by_cases hl : count < n
      · have F := Lib.hid (txts_err (most := most) (by decide) (Oct.cnt3_big (lim := count) e3 e1 h0 hl))
        clear e1 e2 e3 e4
        go_enter Try.func17, Try.ntmps17
        go_wp2_with fail
        refine (rtakeNum_any s _ HI.out.2.2.2.2).mono ?_
        rintro e w1 ⟨he, nd, hw⟩
        subst hw
        rw [E.out.1, E.out.2.1, E.out.2.2] at he
        subst he
        go_wp2_with fail
        go_ret3
        exact textsPost_mk F.out (ownsS_nil _ _ _) (below_drewN (Below.refl _ _) nd)
      · have hc := Oct.cnt3_ok (lim := count) e3 e1 e2 h0 hl
        clear e1 e2 e3 e4
        obtain ⟨n, rfl⟩ := Int.eq_ofNat_of_zero_le (show 0 ≤ n by omega)
        have F := Lib.hid (txts_ok (most := most) hc)
        clear hc
        go_enter Try.func17, Try.ntmps17
        go_wp2_with fail
        refine (rtakeNum_any s _ HI.out.2.2.2.2).mono ?_
        rintro e w1 ⟨he, nd, hw⟩
        subst hw
        rw [E.out.1, E.out.2.1, E.out.2.2] at he
        subst he
        go_wp2_with fail
        go_loopw [10, 12] (fun rs v wr => ∃ (acc : List ByteArray) (rest : ByteArray) (ad : Option Addr) (cap : Nat), acc.length ≤ n ∧ v = .slice ad acc.length cap ∧ rs = .string rest ∧ OwnsS wr w.heap.size 9 (.slice ad acc.length cap) acc ∧ Below w.heap.size w wr ∧
            acc.length + rest.size ≤ s.size ∧ Hid (Oct.lst most n r = Oct.glue acc (Oct.lst most (n - acc.length) rest)))
          (fun _ v _ => n - (lenOf v))
        case atStart => exact ⟨[], r, none, 0, Nat.zero_le _, rfl, rfl, ownsS_nil _ _ _, below_drewN (Below.refl _ _) nd, by simp; omega, Lib.hid (Oct.lst_form most n r)⟩
        case round =>
          obtain ⟨acc, rest, ad, cap, hk, rfl, rfl, hown, hb, hlen, HG⟩ := hrel
          by_cases hlt : acc.length < n
          · obtain ⟨q, hq⟩ : ∃ q, n - acc.length = q + 1 := ⟨n - acc.length - 1, by omega⟩
            have hq2 : q = n - (acc.length + 1) := by omega
            have hrm : rest.size ≤ maxLen := by unfold maxLen; omega
            rcases Oct.txt_cases rest most with ⟨e, he, ht⟩ | ⟨a, r2, ht, hr2, ha⟩
            · have HE := Lib.hid ht
              have HF : Hid (Oct.txts s count most = ([], ⟨#[]⟩, e)) := Lib.hid (by rw [F.out, HG.out, hq, Oct.glue_err most acc q rest he ht])
              have hte : (e != 0) = true := by simpa using he
              clear ht he hq hq2
              have HB := Lib.hid (And.intro hb hrm); clear hb hown hrm
              go_wp2_with fail
              refine (rtakeText_any rest most _ HB.out.2).mono ?_
              rintro e w1 ⟨he, nd2, hw⟩
              subst hw
              rw [HE.out] at he
              subst he
              go_wp2_with fail
              go_ret3
              exact textsPost_mk HF.out (ownsS_nil _ _ _) (below_drewN HB.out.1 nd2)
            · have HE := Lib.hid ht
              have HG2 : Hid (Oct.lst most n r = Oct.glue (acc ++ [a]) (Oct.lst most (n - (acc ++ [a]).length) r2)) := Lib.hid (by rw [HG.out, hq, Oct.glue_step most acc q rest ht, hq2]; simp)
              have hl2 : (acc ++ [a]).length + r2.size ≤ s.size := by simp; omega
              have HL := Lib.hid (And.intro hl2 hrm)
              have hsz := hb.size
              have hbd : acc.length + 1 ≤ 1048577 := by omega
              clear ht hq hq2 hrm hl2
              go_wp2_with fail
              refine (rtakeText_any rest most _ HL.out.2).mono ?_
              rintro e w1 ⟨he, nd2, hw⟩
              subst hw
              rw [HE.out] at he
              subst he
              go_wp2_with (at_builtin; go_loud (refine wpList_append_own _ rfl _ _ 34 rfl w.heap.size 9 i0 (.string ⟨#[]⟩) 1 16 Try.underlying34 HI.out.1 HI.out.2.1 HI.out.2.2.1 HI.out.2.2.2.1 rfl (by decide) _ _ _ rfl (ownsS_row hown _ _) ⟨wr.heap.size, 0, none⟩ 1 1 [.string a] rfl rfl cell_one one_cell_s (by unfold maxLen; omega) (by omega) (by simp; omega) ?_))
              intro v' w2 hown' hgrow _
              have ho := ownsS_snoc hown'
              have hb2 : Below w.heap.size w w2 := belowS_grown (wr := wr.drewN nd2) (below_drewN hb nd2) (by simpa using hsz) hown hgrow
              have HF2 := Lib.hid hb2
              obtain ⟨ad2, cap2, hv⟩ := ownsS_form ho
              have hk2 : (acc ++ [a]).length ≤ n := by simp; omega
              have hl3 : (acc ++ [a]).length = acc.length + 1 := by simp
              subst hv
              have HH := Lib.hid (And.intro ho (And.intro hk2 hl3))
              clear hown' hgrow hb2 hown hb ho hk2 hl3
              go_wp2_with fail
              go_roundw
              case rel => exact ⟨acc ++ [a], r2, ad2, cap2, HH.out.2.1, rfl, rfl, HH.out.1, HF2.out, HL.out.1, HG2⟩
              case measure => simp only [lenOf, HH.out.2.2]; omega
          · have HF : Hid (Oct.txts s count most = (acc, rest, 0)) := Lib.hid (by rw [F.out, HG.out, show n - acc.length = 0 from by omega, Oct.glue_end])
            have HB := Lib.hid (And.intro hown hb); clear hb hown
            go_wp2_with fail
            go_ret3
            exact textsPost_mk HF.out HB.out.1 HB.out.2
end Go.Proofs.Ytjppicochahjoaa
