/-
  Layer 3: what stir does.
-/
import Derived.Test.YtjdjajjogpmdaaaDoorShaSpread
import Derived.Sort.AtCall
namespace Go.Proofs.YtjdjajjogpmdaaaDoor
open Go.RowKit

theorem quiet_eq {P : Program} {f : FuncId} {args : Array Value} {w : World} {n : Nat} {v : Value}
    (h : Calls P f args (w.drewN n) fun e w' => e = .returned v ∧ w.drewN n = w') : Calls P f args (w.drewN n) fun e w'' => e = .returned v ∧ ∃ m, w'' = w.drewN m :=
  h.mono fun _ _ ⟨he, hm⟩ => ⟨he, n, hm.symm⟩
/-- the table of constants, where the program has it -/
def Tab (w : World) : Prop := ∀ t, t < 64 → w.cell? ⟨0, t, none⟩ = some (.int .u32 (Sha.K t : Int))
theorem tab_below {w w' : World} {B : Nat} (h : Tab w) (hb : Below B w w') (hB : 0 < B) : Tab w' := fun t ht => by rw [hb.cell (p := ⟨0, t, none⟩) hB]; exact h t ht

theorem S0_int (x : Nat) (hx : x < 4294967296) : bits .xor .u32 (bits .xor .u32 (Sha.rot 2 x : Int) (Sha.rot 13 x : Int)) (Sha.rot 22 x : Int) = (Sha.S0 x : Int) := by
  have h1 := Sha.rot_lt 2 x hx
  have h2 := Sha.rot_lt 13 x hx
  rw [xor_32 _ _ h1 h2, xor_32 _ _ (Sha.xor_lt h1 h2) (Sha.rot_lt 22 x hx)]
  rfl
theorem S1_int (x : Nat) (hx : x < 4294967296) : bits .xor .u32 (bits .xor .u32 (Sha.rot 6 x : Int) (Sha.rot 11 x : Int)) (Sha.rot 25 x : Int) = (Sha.S1 x : Int) := by
  have h1 := Sha.rot_lt 6 x hx
  have h2 := Sha.rot_lt 11 x hx
  rw [xor_32 _ _ h1 h2, xor_32 _ _ (Sha.xor_lt h1 h2) (Sha.rot_lt 25 x hx)]
  rfl
theorem mj_int (a b c : Nat) (ha : a < 4294967296) (hb : b < 4294967296) (hc : c < 4294967296) : bits .xor .u32 (bits .xor .u32 (bits .and .u32 (a : Int) (b : Int)) (bits .and .u32 (a : Int) (c : Int))) (bits .and .u32 (b : Int) (c : Int)) = (Sha.mj a b c : Int) := by
  rw [and_32 _ _ ha hb, and_32 _ _ ha hc, and_32 _ _ hb hc, xor_32 _ _ (Sha.and_lt ha) (Sha.and_lt ha), xor_32 _ _ (Sha.xor_lt (Sha.and_lt ha) (Sha.and_lt ha)) (Sha.and_lt hb)]
  rfl

theorem not_32 (e : Nat) (he : e < 4294967296) : 4294967295 ^^^ e = 4294967295 - e := by
  have h1 : 4294967295 - e = 2 ^ 32 - (e + 1) := by omega
  have h2 : (4294967295 : Nat) = 2 ^ 32 - 1 := by decide
  rw [h1]
  apply Nat.eq_of_testBit_eq
  intro i
  rw [Nat.testBit_xor, Nat.testBit_two_pow_sub_succ (by omega), h2, Nat.testBit_two_pow_sub_one]
  by_cases hi : i < 32
  · simp [hi]
  · have : e.testBit i = false := Nat.testBit_lt_two_pow (Nat.lt_of_lt_of_le he (by
      have : 2 ^ 32 ≤ 2 ^ i := Nat.pow_le_pow_right (by omega) (by omega)
      omega))
    simp [hi, this]
theorem ch_int (e f g : Nat) (he : e < 4294967296) (hf : f < 4294967296) (hg : g < 4294967296) : bits .xor .u32 (bits .and .u32 (e : Int) (f : Int)) (bits .and .u32 (bits .xor .u32 4294967295 (e : Int)) (g : Int)) = (Sha.ch e f g : Int) := by
  have h := xor_32 4294967295 e (by omega) he
  rw [not_32 e he] at h
  have h : bits .xor .u32 4294967295 (e : Int) = ((4294967295 - e : Nat) : Int) := h
  rw [h, and_32 _ _ he hf, and_32 _ _ (by omega) hg, xor_32 _ _ (Sha.and_lt he) (Sha.and_lt (by omega))]
  rfl

theorem vals_arr (l : List Nat) (i : Nat) (h : i < l.length) : (vals l).toArray[i]? = some (.int .u32 (l.getD i 0 : Int)) := by
  rw [List.getElem?_toArray]; exact vals_at l i h
/-- the words while those of the rounds are added: k are -/
def mixS (H V : List Nat) (k : Nat) : List Nat := (Sha.addL H V).take k ++ H.drop k
theorem mixS_len (H V : List Nat) (k : Nat) (hH : H.length = 8) (hV : V.length = 8) (hk : k ≤ 8) : (mixS H V k).length = 8 := by
  unfold mixS; rw [List.length_append, List.length_take, Sha.addL_len _ _ hH hV, List.length_drop]; omega
theorem mixS_end (H V : List Nat) (hH : H.length = 8) (hV : V.length = 8) : mixS H V 8 = Sha.addL H V := by
  have := Sha.addL_len _ _ hH hV
  unfold mixS; rw [List.take_of_length_le (by omega), List.drop_of_length_le (by omega), List.append_nil]
theorem mixS_at (H V : List Nat) (k : Nat) (hH : H.length = 8) (hV : V.length = 8) (hk : k < 8) : (mixS H V k).getD k 0 = H.getD k 0 := by
  have := Sha.addL_len _ _ hH hV
  unfold mixS
  rw [List.getD_eq_getElem?_getD, List.getD_eq_getElem?_getD, List.getElem?_append_right (by rw [List.length_take]; omega), List.length_take, List.getElem?_drop]
  congr 2; omega
theorem mixS_succ (H V : List Nat) (k : Nat) (hH : H.length = 8) (hV : V.length = 8) (hk : k < 8) : (mixS H V k).set k ((H.getD k 0 + V.getD k 0) % 4294967296) = mixS H V (k + 1) := by
  have hl := Sha.addL_len _ _ hH hV
  have ha : (Sha.addL H V)[k]? = some ((H.getD k 0 + V.getD k 0) % 4294967296) := by
    unfold Sha.addL
    rw [List.getElem?_zipWith, List.getElem?_eq_getElem (by omega : k < H.length), List.getElem?_eq_getElem (by omega : k < V.length)]
    simp [List.getD, List.getElem?_eq_getElem (by omega : k < H.length), List.getElem?_eq_getElem (by omega : k < V.length)]
  have ha2 : (Sha.addL H V)[k]'(by omega) = (H.getD k 0 + V.getD k 0) % 4294967296 := by
    rw [List.getElem?_eq_getElem (by omega)] at ha; exact Option.some.inj ha
  unfold mixS
  rw [List.set_append_right _ _ (by rw [List.length_take]; omega), List.length_take, show k - min k (Sha.addL H V).length = 0 by omega, List.drop_eq_getElem_cons (by omega), List.set_cons_zero,
    List.take_succ_eq_append_getElem (by omega), ha2, List.append_assoc]
  rfl

set_option maxRecDepth 100000 in
set_option maxHeartbeats 1600000 in
theorem stir_any (H B : List Nat) (n g : Nat) (w : World) (hH : H.length = 8) (hB : B.length = 64) (hW : Sha.Ws B) (hV : Sha.Ws H) (hr : RowV w g 41 (digL H B n)) (ht : Tab w) (hg : 0 < g) :
    Calls Tryd.prog 24 #[.pointer (some ⟨g, 0, none⟩), .pointer (some ⟨g, 8, none⟩)] w fun e w' => e = .returned (.tuple #[]) ∧ RowV w' g 41 (digL (Sha.addL H (Sha.rnds B 64 H)) B n) ∧ Below g w w' := by
  have HH := Lib.hid (And.intro hH (And.intro hB (And.intro hW (And.intro hV (And.intro hr (And.intro ht hg))))))
  obtain ⟨A0, A1, A2, A3, A4, A5, A6, A7, hA⟩ : ∃ a b c d e f g h : Nat, H = [a, b, c, d, e, f, g, h] := by
    match H, hH with
    | [a, b, c, d, e, f, g, h], _ => exact ⟨a, b, c, d, e, f, g, h, rfl⟩
  have cel : ∀ i, i < 8 → w.cell? ⟨g, i, none⟩ = some (.int .u32 (H.getD i 0 : Int)) := fun i hi => by
    rw [rowV_cell hr, digL_word H B n i hH hi]
  have c0 := cel 0 (by omega)
  have c1 := cel 1 (by omega)
  have c2 := cel 2 (by omega)
  have c3 := cel 3 (by omega)
  have c4 := cel 4 (by omega)
  have c5 := cel 5 (by omega)
  have c6 := cel 6 (by omega)
  have c7 := cel 7 (by omega)
  rw [hA] at c0 c1 c2 c3 c4 c5 c6 c7
  replace c0 : w.cell? ⟨g, 0, none⟩ = some (.int .u32 (A0 : Int)) := c0
  replace c1 : w.cell? ⟨g, 1, none⟩ = some (.int .u32 (A1 : Int)) := c1
  replace c2 : w.cell? ⟨g, 2, none⟩ = some (.int .u32 (A2 : Int)) := c2
  replace c3 : w.cell? ⟨g, 3, none⟩ = some (.int .u32 (A3 : Int)) := c3
  replace c4 : w.cell? ⟨g, 4, none⟩ = some (.int .u32 (A4 : Int)) := c4
  replace c5 : w.cell? ⟨g, 5, none⟩ = some (.int .u32 (A5 : Int)) := c5
  replace c6 : w.cell? ⟨g, 6, none⟩ = some (.int .u32 (A6 : Int)) := c6
  replace c7 : w.cell? ⟨g, 7, none⟩ = some (.int .u32 (A7 : Int)) := c7
  have HA := Lib.hid hA
  clear hH hB hW hV hr ht hg cel hA
  go_enter Tryd.func24, Tryd.ntmps24
  go_wp2_with fail
  go_quiet (fail)
  go_wp2_with fail
  go_quiet (fail)
  clear c0 c1 c2 c3 c4 c5 c6 c7
  go_wp2_with fail
  generalize hwq : World.drewN _ _ = wq
  have HQ : Hid (RowV wq g 41 (digL H B n) ∧ Tab wq ∧ Below g w wq) := Lib.hid (by rw [← hwq]; exact ⟨HH.out.2.2.2.2.1, HH.out.2.2.2.2.2.1, below_drewN (below_drewN (Below.refl _ _) _) _⟩)
  clear hwq
  go_loopw [4, 5, 6, 7, 8, 9, 10, 11, 12, 13, 14, 49] (fun va vb vc vd ve vf vg vh _ _ _ i wr => ∃ k a b c d e f g h : Nat, k ≤ 64 ∧ i = .int .i64 k ∧ va = .int .u32 (a : Int) ∧ vb = .int .u32 (b : Int) ∧ vc = .int .u32 (c : Int) ∧ vd = .int .u32 (d : Int) ∧ ve = .int .u32 (e : Int) ∧ vf = .int .u32 (f : Int) ∧ vg = .int .u32 (g : Int) ∧ vh = .int .u32 (h : Int) ∧ Hid (Sha.rnds B k H = [a, b, c, d, e, f, g, h]) ∧ Hid (∃ m, wr = wq.drewN m))
    (fun _ _ _ _ _ _ _ _ _ _ _ i _ => 64 - (intOf i).toNat)
  case atStart => exact ⟨0, A0, A1, A2, A3, A4, A5, A6, A7, by omega, rfl, rfl, rfl, rfl, rfl, rfl, rfl, rfl, rfl, Lib.hid HA.out, Lib.hid ⟨0, rfl⟩⟩
  case round =>
    obtain ⟨k, a, b, c, d, e, f, gg, hh, hk, rfl, rfl, rfl, rfl, rfl, rfl, rfl, rfl, rfl, HR, HM⟩ := hrel
    obtain ⟨m, hm⟩ := HM.out
    have hs := Sha.rnds_ws B k H HH.out.2.2.2.1
    rw [HR.out] at hs
    have ba := hs a (by simp)
    have bb := hs b (by simp)
    have bc := hs c (by simp)
    have bd := hs d (by simp)
    have be := hs e (by simp)
    have bf := hs f (by simp)
    have bg := hs gg (by simp)
    have bh := hs hh (by simp)
    clear hs HM
    by_cases hlt : k < 64
    · have ck : wr.cell? ⟨0, k, none⟩ = some (.int .u32 (Sha.K k : Int)) := by rw [hm]; exact HQ.out.2.1 k hlt
      have cw : wr.cell? ⟨g, 8 + k, none⟩ = some (.int .u32 (B.getD k 0 : Int)) := by
        rw [hm]
        show wq.cell? _ = _
        rw [rowV_cell HQ.out.1, digL_block H B n k HH.out.1 HH.out.2.1 hlt]
      have bk := Sha.K_lt k
      have bw := getD_lt HH.out.2.2.1 k
      have HT : Hid (Sha.rnds B (k + 1) H = Sha.rnd (Sha.K k) (B.getD k 0) [a, b, c, d, e, f, gg, hh]) := Lib.hid (by rw [Sha.rnds, HR.out])
      generalize Sha.K k = K at *
      generalize B.getD k 0 = W at *
      have HM := Lib.hid hm
      clear hm
      go_wp2_with fail
      go_quiet (first
        | (go_at_call_has 28 (Value.int .i64 (-6)); exact quiet_eq (rotr6 e _ be))
        | (go_at_call_has 28 (Value.int .i64 (-11)); exact quiet_eq (rotr11 e _ be))
        | (go_at_call_has 28 (Value.int .i64 (-25)); exact quiet_eq (rotr25 e _ be)))
      go_wp2_with fail
      have q1 := S1_int e be
      have q2 := ch_int e f gg be bf bg
      have qm : IntKind.u32.max = 4294967295 := rfl
      rw [qm, q2, q1]
      have qx : ((hh : Int) + (K : Int) + (W : Int) + (Sha.ch e f gg : Int) + (Sha.S1 e : Int)) % 4294967296 = (Sha.rx K W e f gg hh : Int) := by unfold Sha.rx; omega
      rw [qx]
      have q3 := S0_int a ba
      have q4 := mj_int a b c ba bb bc
      have qy : ((Sha.mj a b c : Int) + (Sha.S0 a : Int)) % 4294967296 = (Sha.ry a b c : Int) := by unfold Sha.ry; omega
      have HT2 : Hid (Sha.rnds B (k + 1) H = [(Sha.rx K W e f gg hh + Sha.ry a b c) % 4294967296, a, b, c, (d + Sha.rx K W e f gg hh) % 4294967296, e, f, gg]) := HT
      generalize Sha.rx K W e f gg hh = X at HT2 ⊢
      clear q1 q2 qm qx HT HR bk bw be bf bg bh bd ck cw
      refine (rotr2 a _ ba).mono ?_
      rintro e0 _ ⟨rfl, rfl⟩
      generalize hR2 : (Sha.rot 2 a : Int) = R2 at q3 ⊢
      go_wp2_with fail
      refine (rotr13 a _ ba).mono ?_
      rintro e0 _ ⟨rfl, rfl⟩
      generalize hR13 : (Sha.rot 13 a : Int) = R13 at q3 ⊢
      go_wp2_with fail
      refine (rotr22 a _ ba).mono ?_
      rintro e0 _ ⟨rfl, rfl⟩
      generalize hR22 : (Sha.rot 22 a : Int) = R22 at q3 ⊢
      clear hR2 hR13 hR22
      generalize Sha.S0 a = S at q3 qy
      generalize Sha.mj a b c = M at q4 qy
      generalize Sha.ry a b c = Y at qy HT2
      have HY := Lib.hid qy
      clear qy
      go_wp2_with fail
      go_roundw
      case rel => exact ⟨k + 1, (X + Y) % 4294967296, a, b, c, (d + X) % 4294967296, e, f, gg, by omega, by go_num, congrArg (Value.int .u32) (by have := HY.out; omega), rfl, rfl, rfl, congrArg (Value.int .u32) (by omega), rfl, rfl, rfl, HT2, Lib.hid (by obtain ⟨m0, h0⟩ : ∃ m0, wr = wq.drewN m0 := ⟨_, HM.out⟩; rw [h0, World.drewN_drewN]; exact ⟨_, rfl⟩)⟩
      case measure => simp [intOf]; omega
    · obtain rfl : k = 64 := by omega
      clear ba bb bc bd be bf bg bh
      have HQ2 : Hid (RowV wr g 41 (digL H B n) ∧ Below g w wr) := Lib.hid (by rw [hm]; exact ⟨HQ.out.1, below_drewN HQ.out.2.2 _⟩)
      have hVl := Sha.rnds_len B 64 H HH.out.1
      rw [HR.out] at hVl
      have HV := Lib.hid hVl
      clear hVl hm HQ HA
      go_wp2_with fail
      go_loopw [15, 16, 123] (fun _ _ i wr => ∃ k : Nat, k ≤ 8 ∧ i = .int .i64 k ∧ Hid (RowV wr g 41 (digL (mixS H [a, b, c, d, e, f, gg, hh] k) B n)) ∧ Hid (Below g w wr))
        (fun _ _ i _ => 8 - (intOf i).toNat)
      case atStart => exact ⟨0, by omega, rfl, HQ2.out.1, HQ2.out.2⟩
      case round =>
        obtain ⟨j, hj, rfl, HR1, HB1⟩ := hrel
        by_cases hlt8 : j < 8
        · have hix := fun w0 => run_index_arr (P := Tryd.prog) w0 36 35 8 #[.int .u32 (a : Int), .int .u32 (b : Int), .int .u32 (c : Int), .int .u32 (d : Int), .int .u32 (e : Int), .int .u32 (f : Int), .int .u32 (gg : Int), .int .u32 (hh : Int)] .i64 j _ Tryd.underlying36 Tryd.underlying35 size_u32 hlt8 (vals_arr [a, b, c, d, e, f, gg, hh] j (by rw [HV.out]; exact hlt8))
          have HS := Lib.hid (mixS_succ H [a, b, c, d, e, f, gg, hh] j HH.out.1 HV.out hlt8)
          have cj : wr.cell? ⟨g, j, none⟩ = some (.int .u32 (H.getD j 0 : Int)) := by
            rw [rowV_cell HR1.out, digL_word _ B n j (mixS_len _ _ _ HH.out.1 HV.out hj) hlt8, mixS_at H _ j HH.out.1 HV.out hlt8]
          have fj := rowV_frozen HR1.out j
          have bj := getD_lt HH.out.2.2.2.1 j
          generalize H.getD j 0 = P at *
          generalize ([a, b, c, d, e, f, gg, hh] : List Nat).getD j 0 = Q at *
          go_wp2_with fail
          go_region
          go_wp2_with fail
          have hv : ((P : Int) + (Q : Int)) % 4294967296 = (((P + Q) % 4294967296 : Nat) : Int) := by omega
          have hst := rowV_stored HR1.out j (.int .u32 (((P + Q) % 4294967296 : Nat) : Int))
          rw [digL_setWord _ B n j _ (mixS_len _ _ _ HH.out.1 HV.out hj) hlt8, HS.out, ← hv] at hst
          have hbl : Below g w (wr.setCell ⟨g, j, none⟩ (.int .u32 (((P : Int) + (Q : Int)) % 4294967296))).drew := (HB1.out.setCell (p := ⟨g, j, none⟩) (Nat.le_refl _) _).drew
          have HF := Lib.hid (And.intro hst hbl)
          clear hst hbl hv hix
          go_roundw
          case rel => exact ⟨j + 1, by omega, by go_num, Lib.hid HF.out.1, Lib.hid HF.out.2⟩
          case measure => simp [intOf]; omega
        · obtain rfl : j = 8 := by omega
          have HE := Lib.hid (mixS_end H [a, b, c, d, e, f, gg, hh] HH.out.1 HV.out)
          go_wp2_with fail
          go_end0
          exact ⟨rfl, by rw [HR.out, ← HE.out]; exact HR1.out, HB1.out⟩
end Go.Proofs.YtjdjajjogpmdaaaDoor
