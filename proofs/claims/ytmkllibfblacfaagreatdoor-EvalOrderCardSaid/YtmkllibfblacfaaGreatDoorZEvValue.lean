/-
  Layer 16, the program's: an expression's value: the loop.
-/
import Derived.Test.YtmkllibfblacfaaGreatDoorZEvVal3
import Derived.Test.YtmkllibfblacfaaGreatDoorPk1
import Derived.Test.YtmkllibfblacfaaGreatDoorPk2
namespace Go.Proofs.YtmkllibfblacfaaGreatDoor
open Go.RowKit Go.Shelf
open Sx (X)
open Vl (V)
attribute [local go_sem] Oper.semAt_some
namespace Evw
/-- a list of its own that grows, or turns, leaves the scope -/
theorem scp_own {α : Type} {fe : α → List Value} {T k B : Nat} {v : Value} {l : List α} {w0 : World} {sb : Nat} {al : Option Addr} {n lc : Nat} {ra : Option Addr} {rc : Nat} {L : List ColV} {w w' : World} (h : Scp w0 sb al n lc ra rc L w) (hO : OwL fe T k w B v l) (hsb : sb < B) (ho : Only (fun j => v.ownBlock = some j) w w') : Scp w0 sb al n lc ra rc L w' := by
  obtain ⟨h1, h2, mo, h3, h4⟩ := h
  refine ⟨h1.trans (ho.below (fun j _ e => by have := (owL_lt hO j e).1; omega) h1.size), h2, mo, rowV_only h3 ho (fun e => by have := (owL_lt hO sb e).1; omega), ?_⟩
  rcases h4 with h4 | ⟨mb, mn, h4, h5⟩
  · exact .inl h4
  · refine .inr ⟨mb, mn, h4, mapS_only h5 ho fun e => ?_⟩
    obtain ⟨D, ⟨es, clock, hb, -⟩, -⟩ := h5
    obtain ⟨_, _, cs, fz, hr⟩ := Upw.owL_block hO mb e
    rw [hr] at hb
    cases hb
theorem env_fit {L : List ColV} {R : List V} (hF : ∀ v ∈ R, Fit16 v) {s : ByteArray} {v : V} (h : Ev.env L R s = some v) : Fit16 v := by
  unfold Ev.env at h
  cases hl : Ev.lookI L s with
  | none => rw [hl] at h; cases h
  | some i =>
    rw [hl] at h
    have h : R.getD i.toNat Vl.no = v := Option.some.inj h
    subst h
    by_cases hk : i.toNat < R.length
    · rw [getD_at16 hk]; exact hF _ (List.getElem_mem hk)
    · rw [List.getD_eq_getElem?_getD, List.getElem?_eq_none (by omega)]; exact fit_no
set_option maxRecDepth 100000 in
set_option maxHeartbeats 25600000 in
theorem value16_any {w0 : World} {sb : Nat} {al : Option Addr} {n lc : Nat} {ra : Option Addr} {rc : Nat} {L : List ColV} {R : List V} (hn : L.length = n) (hRn : R.length = n) (hl : n ≤ 100000) (hN : ∀ c ∈ L, c.name.size ≤ 1000000) (hC : ReadsC w0 al L) (hV : ReadsV w0 ra R) (hF : ∀ v ∈ R, Fit16 v)
    (x : X) (a : Option Addr) (c : Nat) (hx : XAt w0 (fun j => j < w0.heap.size) x a) (hG : GdE x a) (hd : Sx.deep x ≤ 1000) (w : World) (hS : Scp w0 sb al n lc ra rc L w) (Rz : V × Int) (f0 : Nat) (hrun : Ev.mrun (Ev.env L R) f0 [(x, 0)] [] = some Rz) :
    Calls Tryz.prog 48 #[.pointer (some ⟨sb, 0, none⟩), xV x a c] w (ToldP w0 sb al n lc ra rc L Rz w) := by
  have hEf : ∀ s v, Ev.env L R s = some v → Fit16 v := fun s v h => env_fit hF h
  have hsb : w0.heap.size ≤ sb ∧ sb < w.heap.size := by
    obtain ⟨_, h2, mo, h3, _⟩ := hS
    exact ⟨h2, rowV_lt h3⟩
  have hbx := x_new x a c w
  obtain ⟨W3, hW3⟩ : ∃ W3, ((w.alloc (.cells (xC x a c) 43)).alloc (.cells #[.int .i64 0, .int .i64 0, .string ⟨#[]⟩] 31)).alloc (.cells #[.pointer (some ⟨w.heap.size, 0, none⟩), .int .i64 0] 124) = W3 := ⟨_, rfl⟩
  have hs3 : W3.heap.size = w.heap.size + 3 := by rw [← hW3]; simp
  have hb3 : Below w.heap.size w W3 := by rw [← hW3]; exact (((Below.refl w.heap.size w).alloc (Nat.le_refl _) _).alloc (by simp) _).alloc (by simp; omega) _
  have hx3 : RowV W3 w.heap.size 43 (xC x a c).toList := by rw [← hW3]; exact rowV_alloc (rowV_alloc (rowV_new w _ _) _) _
  have hz3 : RowV W3 (w.heap.size + 1) 31 (valC Vl.no).toList := by
    rw [← hW3]
    have h := rowV_new (w.alloc (.cells (xC x a c) 43)) 31 (valC Vl.no).toList
    rw [World.size_alloc] at h
    exact rowV_alloc h _
  have hp3 : RowV W3 (w.heap.size + 1 + 1) 124 [.pointer (some ⟨w.heap.size, 0, none⟩), .int .i64 0] := by
    rw [← hW3]
    have h := rowV_new ((w.alloc (.cells (xC x a c) 43)).alloc (.cells #[.int .i64 0, .int .i64 0, .string ⟨#[]⟩] 31)) 124 [.pointer (some ⟨w.heap.size, 0, none⟩), .int .i64 0]
    rw [World.size_alloc, World.size_alloc] at h
    exact h
  have hS3 : Scp w0 sb al n lc ra rc L W3 := scp_below hS hb3
  have hSd : Side w0 W3 w0.heap.size w.heap.size x a c := ⟨fun j hj => hS3.1.block j hj, hx3, by omega, Nat.le_refl _⟩
  have hI := start_inv (E := Ev.env L R) (B := w.heap.size + 2) hrun hx hG hd hSd (Nat.le_refl _) hp3
  have H3 := Lib.hid (And.intro hI (And.intro hS3 (And.intro (Only.of_none (F := fun k => k = sb) hb3) hz3)))
  have HK := Lib.hid (And.intro hEf hsb)
  have HT := Lib.hid fun (y : X) (b o : Nat) (ay : Option Addr) (cy : Nat) (P : List V) (pa : Option Addr) (m pc : Nat) (hm : P.length = m) (hm2 : m ≤ 1000000) (hf : ∀ v ∈ P, Fit16 v) (hs : y.s.size ≤ 1000000) (h3 : y.op = 3 → 0 < m) (h2 : y.op ≠ 1 → y.op ≠ 2 → y.op ≠ 3 → y.op ≠ 14 → y.op ≠ 15 → 1 < m) (wx : World) => told16_any (sb := sb) (lc := lc) (rc := rc) hn hRn hl hN hC hV y b o ay cy P pa m pc hm hm2 hf hs h3 h2 wx
  generalize Ev.env L R = E at *
  clear hn hRn hl hN hC hV hF hx hG hd hS hrun hEf hsb hbx hb3 hx3 hz3 hp3 hS3 hSd hI
  go_enter Tryz.func48, Tryz.ntmps48
  go_wp2_with fail
  clear hW3
  go_loopg [5, 6] f0 (fun gh wv vv wr => ∃ (P : List St14) (Vs : List V) (al' av : Option Addr) (cp cv : Nat), wv = .slice al' P.length cp ∧ vv = .slice av Vs.length cv ∧ Hid (VInv w0 w0.heap.size w.heap.size (w.heap.size + 2) x a c E Rz gh P Vs (.slice al' P.length cp) (.slice av Vs.length cv) wr) ∧ Hid (Scp w0 sb al n lc ra rc L wr ∧ Only (fun k => k = sb) w wr ∧ RowV wr (w.heap.size + 1) 31 (valC Vl.no).toList))
  case atStart => exact ⟨_, [], _, _, _, _, rfl, rfl, Lib.hid H3.out.1, Lib.hid H3.out.2⟩
  case round =>
    obtain ⟨P, Vs, al', av, cp, cv, rfl, rfl, HI, HO⟩ := hrel
    rcases List.eq_nil_or_concat P with rfl | ⟨P, t, rfl⟩
    · have h1 := cnt_end HI.out.cnt
      match Vs, h1 with
      | [v], _ =>
        have hRz := run_end HI.out.run
        obtain ⟨g, c', e, hc⟩ := owL_cell (f := vCl) (fun _ _ => rfl) HI.out.ownV 0 (by simp)
        injection e with e1 _ e3
        subst e1; subst e3
        have hcv : 1 ≤ cv := by
          obtain ⟨_, _, e, hh, _⟩ := owL_form HI.out.ownV
          injection e with _ _ e
          subst e; exact hh
        have z0 := (hc 0 _ rfl).1
        have z1 := (hc 1 _ rfl).1
        have z2 := (hc 2 _ rfl).1
        simp only [Nat.zero_mul, Nat.zero_add, List.getElem_cons_zero] at z0 z1 z2
        obtain ⟨q0, q1, q2, f0, f1, f2⟩ := val_cells HO.out.2.2
        have HR := Lib.hid hRz
        clear hc hRz
        generalize hN : w.heap.size = N at *
        have HN := Lib.hid hN
        clear hN
        obtain ⟨yk, yn, ys⟩ := v
        dsimp only at z0 z1 z2
        go_wp2_with fail
        have hp := val_put HO.out.2.2 yk yn ys
        have hop : Only (fun k => k = N + 1) wr (((wr.setCell ⟨N + 1, 0, none⟩ (.int .i64 yk)).setCell ⟨N + 1, 1, none⟩ (.int .i64 yn)).setCell ⟨N + 1, 2, none⟩ (.string ys)) := (((Only.refl (fun k => k = N + 1) wr).setCell (fun _ => rfl) _).setCell (fun _ => rfl) _).setCell (fun _ => rfl) _
        have hk := HK.out.2
        exact ⟨rfl, _, results_v16 (p := 4) rfl _ _ (N + 1) ⟨yk, yn, ys⟩ rfl hp.1, scp_row HO.out.1 HO.out.2.2 (by omega) (by omega) hop, HO.out.2.1.trans hop fun i hi e => by have e : i = N + 1 := e; have := HN.out; omega, .inl ⟨by rw [HR.out], by rw [HR.out]⟩⟩
    · have hlen : (P ++ [t]).length = P.length + 1 := by simp
      rw [List.concat_eq_append, hlen] at HI ⊢
      obtain ⟨f, rfl⟩ : ∃ f, gk = f + 1 := by
        cases gk with
        | zero => exact (run_none HI.out.run).elim
        | succ f => exact ⟨f, rfl⟩
      obtain ⟨g, rfl, -, hcp, hmax, hBg, hgs, hfew, z0, z1, fz0, fz1, z6⟩ := vi_last HI.out
      obtain ⟨hvd, hvs⟩ := vi_few HI.out
      have ht := HI.out.way.sub t (by simp)
      have hif := HI.out.ifs t (by simp)
      obtain ⟨hvc, hvm⟩ : Vs.length ≤ cv ∧ cv ≤ maxLen := by
        obtain ⟨_, _, e, h1, h2, _⟩ := owL_form HI.out.ownV
        injection e with _ _ e
        subst e; exact ⟨h1, h2⟩
      have htf := gdE_few ht.2.1
      have hsn := (Sx.fine_is ht.2.1.1).2.1
      have hneed := gdE_need ht.2.1
      have hthree := gdE_if ht.2.1
      have htd := ht.2.2
      have eN : ((P.length + 1 : Nat) : Int) - 1 = (P.length : Int) := by omega
      have t0 : decide (((P.length + 1 : Nat) : Int) > 0) = true := decide_eq_true (by omega)
      obtain ⟨c0, c1, c2, c3, c4, c5⟩ := z6
      have HF := Lib.hid (And.intro hvd (And.intro hvs (And.intro ht (And.intro hif (And.intro hvc (And.intro hvm (And.intro htf (And.intro hsn (And.intro hneed (And.intro hthree htd))))))))))
      clear hvd hvs ht hif hvc hvm htf hsn hneed hthree htd
      by_cases h16 : t.x.op = 16
      · by_cases hd0 : 0 < t.d
        · have t1 : (t.x.op == 16) = true := by simpa using h16
          have t2 : decide (((t.d : Nat) : Int) > 0) = true := decide_eq_true (by omega)
          have hvd := HF.out.1
          have h3 := HF.out.2.2.2.2.2.2.2.2.2.1 h16
          have ht := HF.out.2.2.1
          obtain ⟨Vr, v, rfl⟩ : ∃ Vr v, Vs = Vr ++ [v] := by
            rcases List.eq_nil_or_concat Vs with rfl | ⟨Vr, v, rfl⟩
            · have : t.d ≤ 0 := hvd
              omega
            · exact ⟨Vr, v, List.concat_eq_append⟩
          obtain ⟨KV, hKV⟩ : ∃ k, Vr.length = k := ⟨_, rfl⟩
          obtain ⟨KW, hKW⟩ : ∃ k, k = KV + 1 := ⟨_, rfl⟩
          have hlv : (Vr ++ [v]).length = KW := by rw [hKW, ← hKV]; simp
          generalize hVV : (Vr ++ [v]).length = VL at *
          subst hlv
          have hvs := HF.out.2.1
          have hvc := HF.out.2.2.2.2.1
          have hvm := HF.out.2.2.2.2.2.1
          clear HF hvd
          have hr := run_if HI.out.run h16 hd0
          have hpk : Ev.pick v < t.x.l.length := by rw [h3]; unfold Ev.pick; split <;> omega
          obtain ⟨b, o, ay, cy, ha, hcy, hxy⟩ := xat_at ht.1 (Ev.pick v) hpk
          have hbm : b < w0.heap.size := xat_in (S := fun j => j < w0.heap.size) t.x t.a ht.1 (Nat.lt_of_le_of_lt (Nat.zero_le _) hpk) ha
          have hiv : KV < (Vr ++ [v]).length := by rw [hVV]; omega
          obtain ⟨gv, c', e, hc⟩ := owL_cell (f := vCl) (fun _ _ => rfl) HI.out.ownV KV hiv
          have e2 : (Vr ++ [v])[KV] = v := by subst hKV; simp
          rw [e2] at hc
          injection e with e1 _ e3
          subst e1; subst e3
          have v0 := (hc 0 _ rfl).1
          have v1 := (hc 1 _ rfl).1
          have v2 := (hc 2 _ rfl).1
          rw [Nat.add_zero] at v0
          have eV : ((VL : Nat) : Int) - 1 = (KV : Int) := by omega
          rw [h3, ha] at c5
          have HPk := Lib.hid fun wx => picked16_any b o t.c v wx
          have HJ := Lib.hid (⟨_, hpk, rfl, h16, hd0, hbm, hcy, hxy⟩ : ∃ i, ∃ hi : i < t.x.l.length, i = Ev.pick v ∧ t.x.op = 16 ∧ 0 < t.d ∧ b < w0.heap.size ∧ Cells6 w0 b (o + i * 6) t.x.l[i] ay cy ∧ XAt w0 (fun j => j < w0.heap.size) t.x.l[i] ay)
          have HR := Lib.hid hr
          clear hr hcy hxy hpk hbm h16 hc e2 ht h3 ha hiv hlen t2
          generalize hNP : P.length = N at *
          have HNP := Lib.hid hNP
          clear hNP
          have HKV := Lib.hid (And.intro hKV (And.intro hVV hKW))
          have hVp : (0 : Nat) < VL := by omega
          clear hKV hVV
          go_wp2_with fail
          refine wp_region_plan (S := fun wx => wx.cell? ⟨t.b, t.o + 5, none⟩ = some (.slice (some ⟨b, o, none⟩) 3 t.c) ∧ wx.cell? ⟨gv, KV * 3, none⟩ = some (.int .i64 v.kind) ∧ wx.cell? ⟨gv, KV * 3 + 1, none⟩ = some (.int .i64 v.n) ∧ wx.cell? ⟨gv, KV * 3 + 2, none⟩ = some (.string v.s) ∧ Hid (Below wr.heap.size wr wx)) 12 [(true, 0), (true, 1), (true, 2), (true, 3), (true, 4), (true, 5), (true, 6), (true, 7), (true, 8), (false, 9), (true, 10), (true, 11)] (by kernel_rfl) (fun _ d _ _ _ h => by cases d <;> exact h) (by kernel_rfl) ⟨c5, v0, v1, v2, Lib.hid (Below.refl wr.heap.size wr).drew⟩ ?_
          refine wpPlan_step (i := 0) rfl ⟨(.pointer (some ⟨g, N * 2, none⟩)), ⟨by rfl, fun wx hSx => ?_⟩, ?_⟩
          · obtain ⟨c5, v0, v1, v2, -⟩ := hSx
            go_simp
          simp only [Act.put, List.setIfInBounds_toArray, List.set_cons_zero, List.set_cons_succ]
          refine wpPlan_step (i := 1) rfl ⟨(.pointer (some ⟨t.b, t.o, none⟩)), ⟨by rfl, fun wx hSx => ?_⟩, ?_⟩
          · obtain ⟨c5, v0, v1, v2, -⟩ := hSx
            go_simp
          simp only [Act.put, List.setIfInBounds_toArray, List.set_cons_zero, List.set_cons_succ]
          refine wpPlan_step (i := 2) rfl ⟨(.pointer (some ⟨t.b, t.o, none⟩)), ⟨by rfl, fun wx hSx => ?_⟩, ?_⟩
          · obtain ⟨c5, v0, v1, v2, -⟩ := hSx
            go_simp
          simp only [Act.put, List.setIfInBounds_toArray, List.set_cons_zero, List.set_cons_succ]
          refine wpPlan_step (i := 3) rfl ⟨(.pointer (some ⟨t.b, t.o + 5, none⟩)), ⟨by rfl, fun wx hSx => ?_⟩, ?_⟩
          · obtain ⟨c5, v0, v1, v2, -⟩ := hSx
            go_simp
          simp only [Act.put, List.setIfInBounds_toArray, List.set_cons_zero, List.set_cons_succ]
          refine wpPlan_step (i := 4) rfl ⟨(.slice (some ⟨b, o, none⟩) 3 t.c), ⟨by rfl, fun wx hSx => ?_⟩, ?_⟩
          · obtain ⟨c5, v0, v1, v2, -⟩ := hSx
            go_simp
          simp only [Act.put, List.setIfInBounds_toArray, List.set_cons_zero, List.set_cons_succ]
          refine wpPlan_step (i := 5) rfl ⟨(.slice (some ⟨gv, 0, none⟩) VL cv), ⟨by rfl, fun wx hSx => ?_⟩, ?_⟩
          · obtain ⟨c5, v0, v1, v2, -⟩ := hSx
            go_simp
          simp only [Act.put, List.setIfInBounds_toArray, List.set_cons_zero, List.set_cons_succ]
          refine wpPlan_step (i := 6) rfl ⟨(.int .i64 (KV : Int)), ⟨by rfl, fun wx hSx => ?_⟩, ?_⟩
          · obtain ⟨c5, v0, v1, v2, -⟩ := hSx
            go_simp
          simp only [Act.put, List.setIfInBounds_toArray, List.set_cons_zero, List.set_cons_succ]
          refine wpPlan_step (i := 7) rfl ⟨(.pointer (some ⟨gv, KV * 3, none⟩)), ⟨by rfl, fun wx hSx => ?_⟩, ?_⟩
          · obtain ⟨c5, v0, v1, v2, -⟩ := hSx
            go_simp; intro hh; omega
          simp only [Act.put, List.setIfInBounds_toArray, List.set_cons_zero, List.set_cons_succ]
          refine wpPlan_step (i := 8) rfl ⟨(valV v), ⟨by rfl, fun wx hSx => ?_⟩, ?_⟩
          · obtain ⟨c5, v0, v1, v2, -⟩ := hSx
            go_simp
          simp only [Act.put, List.setIfInBounds_toArray, List.set_cons_zero, List.set_cons_succ]
          have HS0 : Hid (wr.drew.cell? ⟨t.b, t.o + 5, none⟩ = some (.slice (some ⟨b, o, none⟩) 3 t.c) ∧ wr.drew.cell? ⟨gv, KV * 3, none⟩ = some (.int .i64 v.kind) ∧ wr.drew.cell? ⟨gv, KV * 3 + 1, none⟩ = some (.int .i64 v.n) ∧ wr.drew.cell? ⟨gv, KV * 3 + 2, none⟩ = some (.string v.s) ∧ Hid (Below wr.heap.size wr wr.drew)) := Lib.hid ⟨c5, v0, v1, v2, Lib.hid (Below.refl wr.heap.size wr).drew⟩
          clear c5 v0 v1 v2
          refine wpPlan_call (i := 9) rfl (by rfl) 70 #[.slice (some ⟨b, o, none⟩) 3 t.c, valV v] (by go_simp) (HPk.out _) ?_
          rintro e w5 ⟨hb, hh⟩
          have hS : w5.cell? ⟨t.b, t.o + 5, none⟩ = some (.slice (some ⟨b, o, none⟩) 3 t.c) ∧ w5.cell? ⟨gv, KV * 3, none⟩ = some (.int .i64 v.kind) ∧ w5.cell? ⟨gv, KV * 3 + 1, none⟩ = some (.int .i64 v.n) ∧ w5.cell? ⟨gv, KV * 3 + 2, none⟩ = some (.string v.s) ∧ Hid (Below wr.heap.size wr w5) := ⟨(hb.cell (World.block_lt_of_cell? _ _ HS0.out.1)).trans HS0.out.1, (hb.cell (World.block_lt_of_cell? _ _ HS0.out.2.1)).trans HS0.out.2.1, (hb.cell (World.block_lt_of_cell? _ _ HS0.out.2.2.1)).trans HS0.out.2.2.1, (hb.cell (World.block_lt_of_cell? _ _ HS0.out.2.2.2.1)).trans HS0.out.2.2.2.1, Lib.hid (HS0.out.2.2.2.2.out.trans (hb.mono HS0.out.2.2.2.2.out.size))⟩
          have Hw5 := Lib.hid hS
          clear hS hb
          rcases hh with ⟨hsh, rfl⟩ | ⟨hsh, rfl⟩
          rotate_left
          · have HZ := Lib.hid hsh
            clear hsh
            refine .inr ⟨_, rfl, ?_⟩
            go_simp
            exact ⟨rfl, scp_below HO.out.1 Hw5.out.2.2.2.2.out, HO.out.2.1.trans (Only.of_none (F := fun _ => False) Hw5.out.2.2.2.2.out) (fun _ _ h => h.elim), .inr ⟨by rw [HR.out.1 HZ.out]; decide, by rw [HR.out.1 HZ.out]⟩⟩
          have HZ := Lib.hid hsh
          clear hsh
          refine .inl ⟨_, rfl, Hw5.out, ?_⟩
          simp only [Act.put, List.setIfInBounds_toArray, List.set_cons_zero, List.set_cons_succ]
          refine wpPlan_step (i := 10) rfl ⟨(.agg #[.pointer (some ⟨b, o + Ev.pick v * 6, none⟩), .int .i64 0]), ⟨by rfl, fun wx hSx => ?_⟩, ?_⟩
          · obtain - := hSx
            go_simp
          simp only [Act.put, List.setIfInBounds_toArray, List.set_cons_zero, List.set_cons_succ]
          refine wpPlan_step (i := 11) rfl ⟨(.pointer (some ⟨g, N * 2, none⟩)), ⟨by rfl, fun wx hSx => ?_⟩, ?_⟩
          · obtain - := hSx
            go_simp
          simp only [Act.put, List.setIfInBounds_toArray, List.set_cons_zero, List.set_cons_succ]
          show wpList _ _ _ _ _ w5
          simp only [List.drop_succ_cons, List.drop_zero]
          have hb5 := Hw5.out.2.2.2.2.out
          have hI5 := vi_below HI.out hb5
          have hVL : VL = Vr.length + 1 := by have := HKV.out; omega
          have hVK : Vr.length = KV := HKV.out.1
          have hfin : VInv w0 w0.heap.size w.heap.size (w.heap.size + 2) x a c E Rz f (P ++ [⟨b, o + Ev.pick v * 6, t.x.l.getD (Ev.pick v) Sx.no, ay, cy, 0⟩]) Vr (.slice (some ⟨g, 0, none⟩) (N + 1) cp) (.slice (some ⟨gv, 0, none⟩) KV cv) ((w5.setCell ⟨g, N * 2, none⟩ (.pointer (some ⟨b, o + Ev.pick v * 6, none⟩))).setCell ⟨g, N * 2 + 1, none⟩ (.int .i64 0)) ∧ Only (fun k => k = g) w5 ((w5.setCell ⟨g, N * 2, none⟩ (.pointer (some ⟨b, o + Ev.pick v * 6, none⟩))).setCell ⟨g, N * 2 + 1, none⟩ (.int .i64 0)) := by
            obtain ⟨i, hi, hip, j16, jd, jb, jc, jx⟩ := HJ.out
            have hk := HK.out.2
            rw [hVL] at hI5
            have h := vi_pick hI5 (by omega) (by omega) j16 jd HZ.out hi hip jb jc jx
            subst hip
            rw [HNP.out, hVK, List.getElem_eq_getD (h := hi) Sx.no] at h
            exact h
          have HFIN := Lib.hid hfin
          have y0 := (hb5.cell (World.block_lt_of_cell? _ _ z0)).trans z0
          have y1 := (hb5.cell (World.block_lt_of_cell? _ _ z1)).trans z1
          have g0 := (hb5.frozen (p := ⟨g, N * 2, none⟩) hgs).trans fz0
          have g1 := (hb5.frozen (p := ⟨g, N * 2 + 1, none⟩) hgs).trans fz1
          have hgs5 : g < w5.heap.size := Nat.lt_of_lt_of_le hgs hb5.size
          have HW5 := Lib.hid hI5.ownW
          have HO5 := Lib.hid (And.intro (scp_below HO.out.1 hb5) (And.intro (HO.out.2.1.trans (Only.of_none (F := fun _ => False) hb5) fun _ _ h => h.elim) (rowV_below HO.out.2.2 hb5 (rowV_lt HO.out.2.2))))
          clear hfin hI5 hb5 hVL z0 z1 fz0 fz1
          have q2 : ∀ W, (Instr.slice 32 (.slice (some ⟨gv, 0, none⟩) VL cv) none (some (.int .i64 (KV : Int))) none).run Tryz.prog W = .ok (.slice (some ⟨gv, 0, none⟩) KV cv) W := fun W => slice_front16 _ _ cv KV (by omega) W
          go_wp2_with fail
          go_roundg f
          · have e1 : (P ++ [(⟨b, o + Ev.pick v * 6, t.x.l.getD (Ev.pick v) Sx.no, ay, cy, 0⟩ : St14)]).length = N + 1 := by rw [List.length_append, HNP.out]; rfl
            have hk := HK.out.2
            refine ⟨P ++ [⟨b, o + Ev.pick v * 6, t.x.l.getD (Ev.pick v) Sx.no, ay, cy, 0⟩], Vr, some ⟨g, 0, none⟩, some ⟨gv, 0, none⟩, cp, cv, by rw [e1], by rw [hVK], ?_, ?_⟩
            · rw [e1, hVK]
              exact Lib.hid HFIN.out.1
            · exact Lib.hid ⟨scp_own HO5.out.1 HW5.out (by omega) (HFIN.out.2.mono fun k _ e => by rw [show k = g from e]; rfl), HO5.out.2.1.trans HFIN.out.2 (fun i hi e => by have e : i = g := e; omega), rowV_only HO5.out.2.2 HFIN.out.2 (show ¬ w.heap.size + 1 = g by omega)⟩
          · omega
        · have t1 : (t.x.op == 16) = true := by simpa using h16
          have hdl : t.d < t.x.l.length := by have := HF.out.2.2.2.2.2.2.2.2.2.1 h16; omega
          have hn16 : ¬ (t.x.op = 16 ∧ 0 < t.d) := fun h => hd0 h.2
          clear h16
          have t3 : decide (((t.d : Nat) : Int) < ((t.x.l.length : Nat) : Int)) = true := decide_eq_true (by omega)
          have ht := HF.out.2.2.1
          obtain ⟨b, o, ay, cy, ha, hbm, hcy, hxy, -⟩ := way_next HI.out.side HI.out.way hdl
          have hGy := gdE_sub ht.2.1 t.d hdl ay
          rw [ha] at c5
          have htf := HF.out.2.2.2.2.2.2.1
          have HJ := Lib.hid (And.intro hn16 (And.intro ha (And.intro hbm (And.intro hcy (And.intro hxy hGy)))))
          clear hn16 hbm hcy hxy hGy ht hlen ha HF
          generalize hNP : P.length = N at *
          have HNP := Lib.hid hNP
          clear hNP
          go_wp2_with fail
          go_quiet (fail)
          generalize hwq : wr.drewN nq = wq
          have hbq : Below wr.heap.size wr wq := by rw [← hwq]; exact below_drewN (Below.refl wr.heap.size wr) nq
          have hk := HK.out.2
          have y0 := (hbq.cell (World.block_lt_of_cell? _ _ z0)).trans z0
          have y1 := (hbq.cell (World.block_lt_of_cell? _ _ z1)).trans z1
          have g1 := (hbq.frozen (p := ⟨g, N * 2 + 1, none⟩) hgs).trans fz1
          have hgs5 : g < wq.heap.size := Nat.lt_of_lt_of_le hgs hbq.size
          have HO5 := Lib.hid (And.intro (scp_below HO.out.1 hbq) (And.intro (HO.out.2.1.trans (Only.of_none (F := fun _ => False) hbq) fun _ _ h => h.elim) (rowV_below HO.out.2.2 hbq (rowV_lt HO.out.2.2))))
          have hIq := vi_below HI.out hbq
          have hmd := vi_done hIq (by omega) (by omega) HJ.out.1 hdl
          rw [HNP.out] at hmd
          have hsc := scp_own HO5.out.1 hIq.ownW (by omega) (hmd.2.mono fun k _ e => by rw [show k = g from e]; rfl)
          have hoc := HO5.out.2.1.trans hmd.2 (fun i hi e => by have e : i = g := e; omega)
          have hrc := rowV_only HO5.out.2.2 hmd.2 (show ¬ w.heap.size + 1 = g by omega)
          obtain ⟨wm, hwm⟩ : ∃ wm, wq.setCell ⟨g, N * 2 + 1, none⟩ (.int .i64 ((t.d : Int) + 1)) = wm := ⟨_, rfl⟩
          rw [hwm] at hmd hsc hoc hrc
          have hi2 : N < (P ++ [{ t with d := t.d + 1 }]).length := by rw [List.length_append, HNP.out]; exact Nat.lt_succ_self _
          have e2 : (P ++ [{ t with d := t.d + 1 }])[N] = { t with d := t.d + 1 } := by
            have h := HNP.out
            subst h; simp
          have hc2 := owL_at1 (f := fS) (fun _ _ => rfl) hmd.1.ownW N hi2
          rw [e2] at hc2
          have p0 := (hc2 0 _ rfl).1
          have p1 := (hc2 1 _ rfl).1
          have p5 := (way_cells hmd.1.side hmd.1.way { t with d := t.d + 1 } (by simp)).2.2.2.2.2
          have ha := HJ.out.2.1
          replace p0 : wm.cell? ⟨g, N * 2, none⟩ = some (.pointer (some ⟨t.b, t.o, none⟩)) := p0
          replace p1 : wm.cell? ⟨g, N * 2 + 1, none⟩ = some (.int .i64 ((t.d : Int) + 1)) := p1
          replace p5 : wm.cell? ⟨t.b, t.o + 5, none⟩ = some (.slice (some ⟨b, o, none⟩) t.x.l.length t.c) := by rw [← ha]; exact p5
          have HM := Lib.hid (And.intro hmd.1 (And.intro hsc (And.intro hoc hrc)))
          have HC := Lib.hid (And.intro p0 (And.intro p1 p5))
          clear hmd hsc hoc hrc hIq hbq hwq hc2 e2 hi2 p0 p1 p5 z0 z1 fz0 fz1 c0 c1 c2 c3 c4 c5 ha hk
          have hwd : IntKind.i64.wrap ((t.d : Nat) : Int) = ((t.d : Nat) : Int) := IntWalk.i64_in _ (by omega)
          have hcond : (0 : Int) ≤ ((t.d : Nat) : Int) ∧ ((t.d : Nat) : Int) < ((t.x.l.length : Nat) : Int) := ⟨by omega, by omega⟩
          have HCo := Lib.hid hcond
          clear hcond
          go_wp2_with fail
          try rw [hwm]
          clear hwm
          have hlq : (P ++ [{ t with d := t.d + 1 }]).length = N + 1 := by rw [List.length_append, HNP.out]; rfl
          have hdr : Below wm.heap.size wm ((wm.drew).alloc (.cells #[.pointer (some ⟨b, o + t.d * 6, none⟩), .int .i64 0] 124)) := (Below.refl wm.heap.size wm).drew.alloc (Nat.le_refl _) _
          have hnr : RowV ((wm.drew).alloc (.cells #[.pointer (some ⟨b, o + t.d * 6, none⟩), .int .i64 0] 124)) wm.heap.size 124 (fS ⟨b, o + t.d * 6, t.x.l[t.d], ay, cy, 0⟩) := rowV_new wm.drew 124 [_, _]
          have hS1 : ((wm.drew).alloc (.cells #[.pointer (some ⟨b, o + t.d * 6, none⟩), .int .i64 0] 124)).cell? ⟨g, N * 2, none⟩ = some (.pointer (some ⟨t.b, t.o, none⟩)) ∧ ((wm.drew).alloc (.cells #[.pointer (some ⟨b, o + t.d * 6, none⟩), .int .i64 0] 124)).cell? ⟨g, N * 2 + 1, none⟩ = some (.int .i64 ((t.d : Int) + 1)) ∧ ((wm.drew).alloc (.cells #[.pointer (some ⟨b, o + t.d * 6, none⟩), .int .i64 0] 124)).cell? ⟨t.b, t.o + 5, none⟩ = some (.slice (some ⟨b, o, none⟩) t.x.l.length t.c) :=
            ⟨(hdr.cell (World.block_lt_of_cell? _ _ HC.out.1)).trans HC.out.1, (hdr.cell (World.block_lt_of_cell? _ _ HC.out.2.1)).trans HC.out.2.1, (hdr.cell (World.block_lt_of_cell? _ _ HC.out.2.2)).trans HC.out.2.2⟩
          have H7 := Lib.hid (And.intro hdr (And.intro hnr (And.intro hS1 hlq)))
          clear hdr hnr hS1 hlq
          refine wp_region_held_tail (S := fun wx => wx.cell? ⟨g, N * 2, none⟩ = some (.pointer (some ⟨t.b, t.o, none⟩)) ∧ wx.cell? ⟨g, N * 2 + 1, none⟩ = some (.int .i64 ((t.d : Int) + 1)) ∧ wx.cell? ⟨t.b, t.o + 5, none⟩ = some (.slice (some ⟨b, o, none⟩) t.x.l.length t.c)) 12 13 (by omega) (by kernel_rfl) (fun _ d _ _ _ h => by cases d <;> exact h) (by kernel_rfl) HC.out ?_
          simp only [List.take_succ_cons, List.take_zero, List.drop_succ_cons, List.drop_zero]
          iterate 12
            refine wpYield_step ?_
            apply Exists.intro
            refine ⟨⟨by rfl, fun wx hSx => ?_⟩, ?_⟩
            · obtain ⟨k0, k1, k5⟩ := hSx
              go_simp
              first
                | with_reducible rfl
                | (simp only [hwd, if_pos HCo.out, Int.toNat_natCast]; with_reducible rfl)
            simp only [Act.put, List.setIfInBounds_toArray, List.set_cons_zero, List.set_cons_succ]
          refine wpKeep_step rfl rfl fun K hK => ?_
          go_simp
          refine hK _ _ H7.out.2.2.1 ?_
          show wpList _ _ _ _ _ ((wm.drew).alloc (.cells #[.pointer (some ⟨b, o + t.d * 6, none⟩), .int .i64 0] 124))
          refine wpList_append_one (f := fS) (B := w.heap.size + 2) step_elem16 rfl (.tmp 98) (.tmp 110) 125 rfl Tryz.underlying125 (.slice (some ⟨g, 0, none⟩) (N + 1) cp) (P ++ [{ t with d := t.d + 1 }]) (⟨b, o + t.d * 6, t.x.l[t.d], ay, cy, 0⟩ : St14) rfl (owL_below HM.out.1.ownW H7.out.1) wm.heap.size 1 rfl H7.out.2.1 rfl (fS_one _) (by rw [H7.out.2.2.2]; omega) (by have := H7.out.1.size; have := owL_lt HM.out.1.ownW g rfl; omega) ?_
          intro g7 c7 w7 ho7 hg7 _ _
          rw [H7.out.2.2.2] at ho7 ⊢
          have H8 := Lib.hid (And.intro ho7 hg7)
          clear ho7 hg7
          go_wp2_with fail
          go_roundg f
          · have hlen2 : ((P ++ [{ t with d := t.d + 1 }]) ++ [(⟨b, o + t.d * 6, t.x.l[t.d], ay, cy, 0⟩ : St14)]).length = N + 1 + 1 := by rw [List.length_append, H7.out.2.2.2]; rfl
            have hk := HK.out.2
            have hmb := mid_below HM.out.1 H7.out.1
            have ho7 := H8.out.2
            refine ⟨(P ++ [{ t with d := t.d + 1 }]) ++ [⟨b, o + t.d * 6, t.x.l[t.d], ay, cy, 0⟩], Vs, some ⟨g7, 0, none⟩, av, c7, cv, by rw [hlen2], rfl, ?_, ?_⟩
            · rw [hlen2]
              exact Lib.hid (vi_push hmb hdl HJ.out.2.2.1 (by omega) (by omega) HJ.out.2.2.2.1 HJ.out.2.2.2.2.1 HJ.out.2.2.2.2.2 H8.out.1 ho7)
            · have hs7 := scp_below HM.out.2.1 H7.out.1
              exact Lib.hid ⟨scp_own hs7 hmb.ownW (by omega) ho7, (HM.out.2.2.1.trans (Only.of_none (F := fun _ => False) H7.out.1) fun _ _ h => h.elim).trans ho7 (fun i hi e => by have := (owL_lt hmb.ownW i e).1; omega), rowV_only (rowV_below HM.out.2.2.2 H7.out.1 (rowV_lt HM.out.2.2.2)) ho7 (fun e => by have := (owL_lt hmb.ownW _ e).1; omega)⟩
          · omega
      · have t1 : (t.x.op == 16) = false := by simpa using h16
        have hn16 : ¬ (t.x.op = 16 ∧ 0 < t.d) := fun h => h16 h.1
        by_cases hdl : t.d < t.x.l.length
        · clear h16
          have t3 : decide (((t.d : Nat) : Int) < ((t.x.l.length : Nat) : Int)) = true := decide_eq_true (by omega)
          have ht := HF.out.2.2.1
          obtain ⟨b, o, ay, cy, ha, hbm, hcy, hxy, -⟩ := way_next HI.out.side HI.out.way hdl
          have hGy := gdE_sub ht.2.1 t.d hdl ay
          rw [ha] at c5
          have htf := HF.out.2.2.2.2.2.2.1
          have HJ := Lib.hid (And.intro hn16 (And.intro ha (And.intro hbm (And.intro hcy (And.intro hxy hGy)))))
          clear hn16 hbm hcy hxy hGy ht hlen ha HF
          generalize hNP : P.length = N at *
          have HNP := Lib.hid hNP
          clear hNP
          go_wp2_with fail
          go_quiet (fail)
          generalize hwq : wr.drewN nq = wq
          have hbq : Below wr.heap.size wr wq := by rw [← hwq]; exact below_drewN (Below.refl wr.heap.size wr) nq
          have hk := HK.out.2
          have y0 := (hbq.cell (World.block_lt_of_cell? _ _ z0)).trans z0
          have y1 := (hbq.cell (World.block_lt_of_cell? _ _ z1)).trans z1
          have g1 := (hbq.frozen (p := ⟨g, N * 2 + 1, none⟩) hgs).trans fz1
          have hgs5 : g < wq.heap.size := Nat.lt_of_lt_of_le hgs hbq.size
          have HO5 := Lib.hid (And.intro (scp_below HO.out.1 hbq) (And.intro (HO.out.2.1.trans (Only.of_none (F := fun _ => False) hbq) fun _ _ h => h.elim) (rowV_below HO.out.2.2 hbq (rowV_lt HO.out.2.2))))
          have hIq := vi_below HI.out hbq
          have hmd := vi_done hIq (by omega) (by omega) HJ.out.1 hdl
          rw [HNP.out] at hmd
          have hsc := scp_own HO5.out.1 hIq.ownW (by omega) (hmd.2.mono fun k _ e => by rw [show k = g from e]; rfl)
          have hoc := HO5.out.2.1.trans hmd.2 (fun i hi e => by have e : i = g := e; omega)
          have hrc := rowV_only HO5.out.2.2 hmd.2 (show ¬ w.heap.size + 1 = g by omega)
          obtain ⟨wm, hwm⟩ : ∃ wm, wq.setCell ⟨g, N * 2 + 1, none⟩ (.int .i64 ((t.d : Int) + 1)) = wm := ⟨_, rfl⟩
          rw [hwm] at hmd hsc hoc hrc
          have hi2 : N < (P ++ [{ t with d := t.d + 1 }]).length := by rw [List.length_append, HNP.out]; exact Nat.lt_succ_self _
          have e2 : (P ++ [{ t with d := t.d + 1 }])[N] = { t with d := t.d + 1 } := by
            have h := HNP.out
            subst h; simp
          have hc2 := owL_at1 (f := fS) (fun _ _ => rfl) hmd.1.ownW N hi2
          rw [e2] at hc2
          have p0 := (hc2 0 _ rfl).1
          have p1 := (hc2 1 _ rfl).1
          have p5 := (way_cells hmd.1.side hmd.1.way { t with d := t.d + 1 } (by simp)).2.2.2.2.2
          have ha := HJ.out.2.1
          replace p0 : wm.cell? ⟨g, N * 2, none⟩ = some (.pointer (some ⟨t.b, t.o, none⟩)) := p0
          replace p1 : wm.cell? ⟨g, N * 2 + 1, none⟩ = some (.int .i64 ((t.d : Int) + 1)) := p1
          replace p5 : wm.cell? ⟨t.b, t.o + 5, none⟩ = some (.slice (some ⟨b, o, none⟩) t.x.l.length t.c) := by rw [← ha]; exact p5
          have HM := Lib.hid (And.intro hmd.1 (And.intro hsc (And.intro hoc hrc)))
          have HC := Lib.hid (And.intro p0 (And.intro p1 p5))
          clear hmd hsc hoc hrc hIq hbq hwq hc2 e2 hi2 p0 p1 p5 z0 z1 fz0 fz1 c0 c1 c2 c3 c4 c5 ha hk
          have hwd : IntKind.i64.wrap ((t.d : Nat) : Int) = ((t.d : Nat) : Int) := IntWalk.i64_in _ (by omega)
          have hcond : (0 : Int) ≤ ((t.d : Nat) : Int) ∧ ((t.d : Nat) : Int) < ((t.x.l.length : Nat) : Int) := ⟨by omega, by omega⟩
          have HCo := Lib.hid hcond
          clear hcond
          go_wp2_with fail
          try rw [hwm]
          clear hwm
          have hlq : (P ++ [{ t with d := t.d + 1 }]).length = N + 1 := by rw [List.length_append, HNP.out]; rfl
          have hdr : Below wm.heap.size wm ((wm.drew).alloc (.cells #[.pointer (some ⟨b, o + t.d * 6, none⟩), .int .i64 0] 124)) := (Below.refl wm.heap.size wm).drew.alloc (Nat.le_refl _) _
          have hnr : RowV ((wm.drew).alloc (.cells #[.pointer (some ⟨b, o + t.d * 6, none⟩), .int .i64 0] 124)) wm.heap.size 124 (fS ⟨b, o + t.d * 6, t.x.l[t.d], ay, cy, 0⟩) := rowV_new wm.drew 124 [_, _]
          have hS1 : ((wm.drew).alloc (.cells #[.pointer (some ⟨b, o + t.d * 6, none⟩), .int .i64 0] 124)).cell? ⟨g, N * 2, none⟩ = some (.pointer (some ⟨t.b, t.o, none⟩)) ∧ ((wm.drew).alloc (.cells #[.pointer (some ⟨b, o + t.d * 6, none⟩), .int .i64 0] 124)).cell? ⟨g, N * 2 + 1, none⟩ = some (.int .i64 ((t.d : Int) + 1)) ∧ ((wm.drew).alloc (.cells #[.pointer (some ⟨b, o + t.d * 6, none⟩), .int .i64 0] 124)).cell? ⟨t.b, t.o + 5, none⟩ = some (.slice (some ⟨b, o, none⟩) t.x.l.length t.c) :=
            ⟨(hdr.cell (World.block_lt_of_cell? _ _ HC.out.1)).trans HC.out.1, (hdr.cell (World.block_lt_of_cell? _ _ HC.out.2.1)).trans HC.out.2.1, (hdr.cell (World.block_lt_of_cell? _ _ HC.out.2.2)).trans HC.out.2.2⟩
          have H7 := Lib.hid (And.intro hdr (And.intro hnr (And.intro hS1 hlq)))
          clear hdr hnr hS1 hlq
          refine wp_region_held_tail (S := fun wx => wx.cell? ⟨g, N * 2, none⟩ = some (.pointer (some ⟨t.b, t.o, none⟩)) ∧ wx.cell? ⟨g, N * 2 + 1, none⟩ = some (.int .i64 ((t.d : Int) + 1)) ∧ wx.cell? ⟨t.b, t.o + 5, none⟩ = some (.slice (some ⟨b, o, none⟩) t.x.l.length t.c)) 12 13 (by omega) (by kernel_rfl) (fun _ d _ _ _ h => by cases d <;> exact h) (by kernel_rfl) HC.out ?_
          simp only [List.take_succ_cons, List.take_zero, List.drop_succ_cons, List.drop_zero]
          iterate 12
            refine wpYield_step ?_
            apply Exists.intro
            refine ⟨⟨by rfl, fun wx hSx => ?_⟩, ?_⟩
            · obtain ⟨k0, k1, k5⟩ := hSx
              go_simp
              first
                | with_reducible rfl
                | (simp only [hwd, if_pos HCo.out, Int.toNat_natCast]; with_reducible rfl)
            simp only [Act.put, List.setIfInBounds_toArray, List.set_cons_zero, List.set_cons_succ]
          refine wpKeep_step rfl rfl fun K hK => ?_
          go_simp
          refine hK _ _ H7.out.2.2.1 ?_
          show wpList _ _ _ _ _ ((wm.drew).alloc (.cells #[.pointer (some ⟨b, o + t.d * 6, none⟩), .int .i64 0] 124))
          refine wpList_append_one (f := fS) (B := w.heap.size + 2) step_elem16 rfl (.tmp 98) (.tmp 110) 125 rfl Tryz.underlying125 (.slice (some ⟨g, 0, none⟩) (N + 1) cp) (P ++ [{ t with d := t.d + 1 }]) (⟨b, o + t.d * 6, t.x.l[t.d], ay, cy, 0⟩ : St14) rfl (owL_below HM.out.1.ownW H7.out.1) wm.heap.size 1 rfl H7.out.2.1 rfl (fS_one _) (by rw [H7.out.2.2.2]; omega) (by have := H7.out.1.size; have := owL_lt HM.out.1.ownW g rfl; omega) ?_
          intro g7 c7 w7 ho7 hg7 _ _
          rw [H7.out.2.2.2] at ho7 ⊢
          have H8 := Lib.hid (And.intro ho7 hg7)
          clear ho7 hg7
          go_wp2_with fail
          go_roundg f
          · have hlen2 : ((P ++ [{ t with d := t.d + 1 }]) ++ [(⟨b, o + t.d * 6, t.x.l[t.d], ay, cy, 0⟩ : St14)]).length = N + 1 + 1 := by rw [List.length_append, H7.out.2.2.2]; rfl
            have hk := HK.out.2
            have hmb := mid_below HM.out.1 H7.out.1
            have ho7 := H8.out.2
            refine ⟨(P ++ [{ t with d := t.d + 1 }]) ++ [⟨b, o + t.d * 6, t.x.l[t.d], ay, cy, 0⟩], Vs, some ⟨g7, 0, none⟩, av, c7, cv, by rw [hlen2], rfl, ?_, ?_⟩
            · rw [hlen2]
              exact Lib.hid (vi_push hmb hdl HJ.out.2.2.1 (by omega) (by omega) HJ.out.2.2.2.1 HJ.out.2.2.2.2.1 HJ.out.2.2.2.2.2 H8.out.1 ho7)
            · have hs7 := scp_below HM.out.2.1 H7.out.1
              exact Lib.hid ⟨scp_own hs7 hmb.ownW (by omega) ho7, (HM.out.2.2.1.trans (Only.of_none (F := fun _ => False) H7.out.1) fun _ _ h => h.elim).trans ho7 (fun i hi e => by have := (owL_lt hmb.ownW i e).1; omega), rowV_only (rowV_below HM.out.2.2.2 H7.out.1 (rowV_lt HM.out.2.2.2)) ho7 (fun e => by have := (owL_lt hmb.ownW _ e).1; omega)⟩
          · omega
        · have hd2 : t.d = t.x.l.length := by have := HF.out.2.2.1.2.2; omega
          have t3 : decide (((t.d : Nat) : Int) < ((t.x.l.length : Nat) : Int)) = false := decide_eq_false (by omega)
          have ht := HF.out.2.2.1
          have hsn := HF.out.2.2.2.2.2.2.2.1
          have hneed := HF.out.2.2.2.2.2.2.2.2.1 h16
          have hvs := HF.out.2.1
          have hvc := HF.out.2.2.2.2.1
          have hvm := HF.out.2.2.2.2.2.1
          obtain ⟨FR, hFR⟩ : ∃ FR, Vs.length = FR + t.x.l.length := ⟨Vs.length - t.x.l.length, by have := HF.out.1; omega⟩
          have eF : ((Vs.length : Nat) : Int) - ((t.x.l.length : Nat) : Int) = (FR : Int) := by omega
          have hFR2 : Vs.length - t.x.l.length = FR := by omega
          have hdr : (Vs.drop FR).length = t.x.l.length := by rw [List.length_drop]; omega
          have hTl : (Vs.take FR).length = FR := by rw [List.length_take]; omega
          have hRV := owL_from16 HI.out.ownV (FR := FR) (by omega)
          have hOT := Upw.owL_take15 (f := vCl) (fun _ => rfl) t.x.l.length (l := Vs) (by omega) HI.out.ownV
          rw [hFR2] at hOT
          obtain ⟨SA, hSA⟩ : ∃ SA, SA = (if cv = FR then av else av.map (·.add (FR * 3))) := ⟨_, rfl⟩
          rw [← hSA] at hRV
          have q1 : ∀ W, (Instr.slice 32 (.slice av Vs.length cv) (some (.int .i64 (FR : Int))) none none).run Tryz.prog W = .ok (.slice SA (Vs.length - FR) (cv - FR)) W := fun W => by rw [hSA]; exact slice_from16 av Vs.length cv FR (by omega) W
          have q2 : ∀ W, (Instr.slice 32 (.slice av Vs.length cv) none (some (.int .i64 (FR : Int))) none).run Tryz.prog W = .ok (.slice av FR cv) W := fun W => slice_front16 _ _ cv FR (by omega) W
          have hVF : Vs.length - FR = t.x.l.length := by omega
          rw [hVF] at q1
          have hrt := run_told (A := Vs.take FR) (B := Vs.drop FR) (by rw [List.take_append_drop]; exact HI.out.run) hn16 hdl hdr
          have HTd := Lib.hid fun wx => HT.out t.x t.b t.o t.a t.c (Vs.drop FR) SA t.x.l.length (cv - FR) hdr (by omega) (fun v hv => HI.out.fit v (List.mem_of_mem_drop hv)) hsn hneed.1 hneed.2 wx
          generalize hOW : Ev.told E t.x (Vs.drop FR) = OW at hrt HTd
          have HOW := Lib.hid hOW
          have HFR := Lib.hid hFR
          have hFc : FR ≤ cv := by omega
          have hFv : FR ≤ Vs.length := by omega
          clear hFR
          have HJ := Lib.hid (And.intro hn16 (And.intro hdl (And.intro hdr (And.intro hTl (And.intro hRV (And.intro hOT hrt))))))
          clear hOW hn16 hdr hTl hRV hOT hrt ht hsn hneed HF hSA hVF hFR2 hlen h16
          generalize hNP : P.length = N at *
          have HNP := Lib.hid hNP
          clear hNP
          go_wp2_with fail
          go_quiet (fail)
          generalize hwq : wr.drewN nq = wq
          have hbq : Below wr.heap.size wr wq := by rw [← hwq]; exact below_drewN (Below.refl wr.heap.size wr) nq
          have y5 := (hbq.cell (World.block_lt_of_cell? _ _ c5)).trans c5
          have HO5 := Lib.hid (And.intro (scp_below HO.out.1 hbq) (And.intro (HO.out.2.1.trans (Only.of_none (F := fun _ => False) hbq) fun _ _ h => h.elim) (rowV_below HO.out.2.2 hbq (rowV_lt HO.out.2.2))))
          have HIq := Lib.hid (vi_below HI.out hbq)
          have HRV := Lib.hid (And.intro (readsV_below HJ.out.2.2.2.2.1 hbq) (And.intro (owL_below HJ.out.2.2.2.2.2.1 hbq) (way_cells HIq.out.side HIq.out.way t (by simp))))
          clear hwq hbq z0 z1 fz0 fz1 c0 c1 c2 c3 c4 c5
          go_wp2_with fail
          refine wp_region_plan (S := fun wx => Hid (Only (fun k => k = sb) wq wx)) 10 [(true, 0), (true, 1), (true, 2), (true, 3), (true, 4), (true, 5), (true, 6), (true, 7), (false, 8), (false, 9)] (by kernel_rfl) (fun _ d _ _ _ h => by cases d <;> exact h) (by kernel_rfl) (Lib.hid (Only.refl _ wq).drew) ?_
          refine wpPlan_step (i := 0) rfl ⟨(.slice av Vs.length cv), ⟨by rfl, fun wx hSx => ?_⟩, ?_⟩
          · obtain - := hSx
            go_simp
          simp only [Act.put, List.setIfInBounds_toArray, List.set_cons_zero, List.set_cons_succ]
          refine wpPlan_step (i := 1) rfl ⟨(.int .i64 (FR : Int)), ⟨by rfl, fun wx hSx => ?_⟩, ?_⟩
          · obtain - := hSx
            go_simp
          simp only [Act.put, List.setIfInBounds_toArray, List.set_cons_zero, List.set_cons_succ]
          refine wpPlan_step (i := 2) rfl ⟨(.slice av FR cv), ⟨by rfl, fun wx hSx => ?_⟩, ?_⟩
          · obtain - := hSx
            have q := q2 wx; go_simp
          simp only [Act.put, List.setIfInBounds_toArray, List.set_cons_zero, List.set_cons_succ]
          refine wpPlan_step (i := 3) rfl ⟨(.pointer (some ⟨sb, 0, none⟩)), ⟨by rfl, fun wx hSx => ?_⟩, ?_⟩
          · obtain - := hSx
            go_simp
          simp only [Act.put, List.setIfInBounds_toArray, List.set_cons_zero, List.set_cons_succ]
          refine wpPlan_step (i := 4) rfl ⟨(.pointer (some ⟨t.b, t.o, none⟩)), ⟨by rfl, fun wx hSx => ?_⟩, ?_⟩
          · obtain - := hSx
            go_simp
          simp only [Act.put, List.setIfInBounds_toArray, List.set_cons_zero, List.set_cons_succ]
          refine wpPlan_step (i := 5) rfl ⟨(.slice av Vs.length cv), ⟨by rfl, fun wx hSx => ?_⟩, ?_⟩
          · obtain - := hSx
            go_simp
          simp only [Act.put, List.setIfInBounds_toArray, List.set_cons_zero, List.set_cons_succ]
          refine wpPlan_step (i := 6) rfl ⟨(.int .i64 (FR : Int)), ⟨by rfl, fun wx hSx => ?_⟩, ?_⟩
          · obtain - := hSx
            go_simp
          simp only [Act.put, List.setIfInBounds_toArray, List.set_cons_zero, List.set_cons_succ]
          refine wpPlan_step (i := 7) rfl ⟨(.slice SA t.x.l.length (cv - FR)), ⟨by rfl, fun wx hSx => ?_⟩, ?_⟩
          · obtain - := hSx
            have q := q1 wx; go_simp
          simp only [Act.put, List.setIfInBounds_toArray, List.set_cons_zero, List.set_cons_succ]
          have hbd : Below wq.heap.size wq wq.drew := (Below.refl _ _).drew
          refine wpPlan_call (i := 8) rfl (by rfl) 71 #[.pointer (some ⟨sb, 0, none⟩), .pointer (some ⟨t.b, t.o, none⟩), .slice SA t.x.l.length (cv - FR)] (by go_simp) (HTd.out _ (cells6_only HRV.out.2.2 (Only.of_none (F := fun _ => False) hbd) (fun h => h)) (readsV_below HRV.out.1 hbd) (scp_below HO5.out.1 hbd)) ?_
          clear hbd
          rintro e w5 ⟨hs5, ho5, hh⟩
          have ho5 : Only (fun k => k = sb) wq w5 := (Only.refl _ wq).drew.more ho5
          have Hw5 := Lib.hid (And.intro hs5 ho5)
          clear hs5 ho5
          rcases hh with ⟨hsh, rfl⟩ | ⟨hsh, rfl⟩
          rotate_left
          · have HZ := Lib.hid hsh
            clear hsh
            refine .inr ⟨_, rfl, ?_⟩
            go_simp
            have hrz := HJ.out.2.2.2.2.2.2.2 HZ.out
            exact ⟨rfl, Hw5.out.1, HO5.out.2.1.more Hw5.out.2, .inr ⟨by rw [hrz]; exact HZ.out, by rw [hrz]⟩⟩
          have HZ := Lib.hid hsh
          clear hsh
          refine .inl ⟨_, rfl, Lib.hid Hw5.out.2, ?_⟩
          simp only [Act.put, List.setIfInBounds_toArray, List.set_cons_zero, List.set_cons_succ]
          obtain ⟨⟨yk, yn, ys⟩, ye⟩ := OW
          have hkB : Hid (Only (fun k => k = sb) wq (w5.alloc (.cells #[.int .i64 yk, .int .i64 yn, .string ys] 31))) := Lib.hid (Hw5.out.2.alloc _)
          refine wpPlan_keep (i := 9) rfl (by rfl) fun K hK => wp_slice_one val_elem (by omega) Tryz.underlying32 (.tmp 41) rfl (.agg #[.int .i64 yk, .int .i64 yn, .string ys]) #[.int .i64 yk, .int .i64 yn, .string ys] rfl rfl rfl (hK _ _ hkB ?_)
          simp only [Act.put, List.setIfInBounds_toArray, List.set_cons_zero, List.set_cons_succ]
          show wpList _ _ _ _ _ (w5.alloc (.cells #[.int .i64 yk, .int .i64 yn, .string ys] 31))
          simp only [List.drop_succ_cons, List.drop_zero]
          have hk := HK.out.2
          have hnb := (Below.refl w5.heap.size w5).alloc (Nat.le_refl _) (.cells #[.int .i64 yk, .int .i64 yn, .string ys] 31)
          have hnew : RowV (w5.alloc (.cells #[.int .i64 yk, .int .i64 yn, .string ys] 31)) w5.heap.size 31 (vCl ⟨yk, yn, ys⟩) := rowV_new w5 _ [_, _, _]
          have hI5 := vi_below (vi_only HIq.out Hw5.out.2 (fun j e => by have e : j = sb := e; omega)) hnb
          have hO5 := owL_below (owL_only HRV.out.2.1 Hw5.out.2 (fun j e hj => by have := (owL_lt HRV.out.2.1 j e).1; have hj : j = sb := hj; omega)) hnb
          have hs5 := scp_below Hw5.out.1 hnb
          have ho5' := (HO5.out.2.1.more Hw5.out.2).trans (Only.of_none (F := fun _ => False) hnb) (fun _ _ h => h.elim)
          have hr5 := rowV_below (rowV_only HO5.out.2.2 Hw5.out.2 (show ¬ w.heap.size + 1 = sb by omega)) hnb (rowV_lt (rowV_only HO5.out.2.2 Hw5.out.2 (show ¬ w.heap.size + 1 = sb by omega)))
          have hlt5 : w.heap.size + 2 ≤ (w5.alloc (.cells #[.int .i64 yk, .int .i64 yn, .string ys] 31)).heap.size := by have := owL_lt hI5.ownW g rfl; omega
          have H6 := Lib.hid (And.intro hI5 (And.intro hO5 (And.intro hs5 (And.intro ho5' (And.intro hr5 hlt5)))))
          have HNW := Lib.hid hnew
          clear hI5 hO5 hs5 ho5' hr5 hlt5 hnew hnb ho5 hk
          refine wpList_append_one (f := vCl) (B := w.heap.size + 2) val_elem rfl (.tmp 35) (.tmp 42) 32 rfl Tryz.underlying32 (.slice av FR cv) (Vs.take FR) (⟨yk, yn, ys⟩ : V) rfl H6.out.2.1 w5.heap.size 1 rfl HNW.out rfl (vCl_one _) (by rw [HJ.out.2.2.2.1]; omega) H6.out.2.2.2.2.2 ?_
          intro g7 c7 w7 ho7 hg7 _ _
          have hTl := HJ.out.2.2.2.1
          rw [hTl] at ho7 ⊢
          have H8 := Lib.hid (And.intro ho7 hg7)
          clear ho7 hg7 hTl
          go_wp2_with fail
          go_roundg f
          · have hl1 : (Vs.take FR ++ [(⟨yk, yn, ys⟩ : V)]).length = FR + 1 := by rw [List.length_append, HJ.out.2.2.2.1]; rfl
            have hk := HK.out.2
            have hi := H6.out.1
            have e := List.take_append_drop FR Vs
            have h0 : (Ev.told E t.x (Vs.drop FR)).2 = 0 := by rw [HOW.out]; exact HZ.out
            have ho7 : Only (fun j => (Value.slice av Vs.length cv).ownBlock = some j) _ w7 := H8.out.2.mono fun k _ e => by
              cases av with
              | none => simp [Value.ownBlock] at e
              | some a => simpa [Value.ownBlock] using e
            refine ⟨P, Vs.take FR ++ [⟨yk, yn, ys⟩], some ⟨g, 0, none⟩, some ⟨g7, 0, none⟩, cp, c7, by rw [HNP.out], by rw [hl1], ?_, ?_⟩
            · rw [HNP.out, hl1]
              exact Lib.hid (vi_told (A := Vs.take FR) (Bs := Vs.drop FR) (by rw [e]; exact hi) (by omega) (by omega) HJ.out.1 HJ.out.2.1 HJ.out.2.2.1 HK.out.1 h0 (by rw [HOW.out]) HNP.out H8.out.1 ho7)
            · exact Lib.hid ⟨scp_own H6.out.2.2.1 H6.out.2.1 (by omega) H8.out.2, H6.out.2.2.2.1.trans H8.out.2 (fun i hi e => by have := (owL_lt H6.out.2.1 i e).1; omega), rowV_only H6.out.2.2.2.2.1 H8.out.2 (fun e => by have := (owL_lt H6.out.2.1 _ e).1; omega)⟩
          · omega
end Evw
end Go.Proofs.YtmkllibfblacfaaGreatDoor
