/-
  Layer 4: what settle does: blocks that a loose write is of made like others, and nothing loose any more.
-/
import Derived.Test.YtjefmmbkkdaeiaaDskObj
import Derived.Deep.RegionHeld3
import Derived.BigQuiet
namespace Go.Proofs.Ytjefmmbkkdaeiaa
open Go.RowKit

/-- a load of an array or a struct, in a region that only reads -/
theorem wpQuiet_load_mid {P : Program} {ops : Array Oper} {w : World} {Q : Act → Prop} {op : Oper} {rest : List Oper} {a : Act} (hgd : op.guard = none) (ty : TypeId) (x : Operand) (ho : op.op = .load ty x)
    (b o : Nat) (hx : a.eval x = .pointer (some ⟨b, o, none⟩)) (cs : List Value) (d : TypeDesc) (hc : w.rangeAt b o cs) (hu : P.underlying ty = some d) (hd : d.isRow = true) (hi : (P.info? ty).map (·.size) = some cs.length)
    (h : wpQuiet P ops (fun w' => ∃ n, w' = w.drewN n) Q rest (a.put op.dst (.agg cs.toArray))) : wpQuiet P ops (fun w' => ∃ n, w' = w.drewN n) Q (op :: rest) a := by
  refine wpQuiet_step fun K hK => ?_
  have hw : Region.wanted op (yielded ops a.tmps) = true := by simp [Region.wanted, hgd]
  rw [if_pos hw]
  refine ⟨.agg cs.toArray, ?_, hK _ h⟩
  rintro w' ⟨n, rfl⟩
  unfold Oper.quietAt execOp
  have hc2 : (w.drewN n).rangeAt b o cs := hc
  simp only [ho, hx, Instr.loadAt, Instr.sureAddr, Sem.run_bind, Sem.run_pure, Result.andThen_ok, run_loadVar_mid (w.drewN n) b o ty cs d hc2 hu hd hi]
  exact ⟨rfl, rfl⟩
theorem setCells_drewN (g : Nat) (vs : List Value) (n : Nat) : ∀ (o : Nat) (w : World), (w.drewN n).setCells g o vs = (w.setCells g o vs).drewN n := by
  induction vs with
  | nil => intro o w; rfl
  | cons v r ih =>
    intro o w
    rw [World.setCells, World.setCells, ← ih]
    rfl
theorem block_under : Try.prog.underlying 67 = some (.array 512 5) := Try.underlying67
theorem block_size (b : ByteArray) (h : b.size = 512) : (Try.prog.info? 67).map (·.size) = some (bv b).length := by
  rw [bv_len, h]
  obtain ⟨i, hi, hi2⟩ := Option.map_eq_some_iff.1 info_block
  simp only [Prod.mk.injEq] at hi2
  rw [hi, Option.map_some, hi2.2.1]
theorem guard_block (w : World) (x y : Operand) (X Y : Array Value) : (eqGuard .neq 67 x y (.agg X) (.agg Y)).run Try.prog w = .ok () w := by
  have h : Try.prog.eqGuardType Try.prog.depth 67 = false := by kernel_rfl
  simp [eqGuard, h]
theorem wv_len (x : Nat × ByteArray) (h : x.2.size = 512) : (wv x).length = 513 := by unfold wv; rw [List.length_cons, bv_len, h]
theorem neq_block (w : World) (a b : ByteArray) (ha : a.size = 512) (hb : b.size = 512) : (binOp .neq 67 (.agg (bv a).toArray) (.agg (bv b).toArray)).run Try.prog w = .ok (.bool (!decide (a = b))) w := by
  simp only [binOp, Sem.run_bind, run_equal_bv w a b ha hb, Result.andThen_ok, Sem.run_pure]
/-- block i of a row of blocks -/
theorem blocks_range {w : World} {g c : Nat} {B : List ByteArray} (h : BlocksAt w g c B) (hs : ∀ b ∈ B, b.size = 512) (i : Nat) (hi : i < B.length) : w.rangeAt g (i * 512) (bv (Dk.blk B i)) := by
  obtain ⟨r, h1, _⟩ := h
  have hk : ∀ b ∈ B, (bv b).length = 512 := fun b hb => by rw [bv_len]; exact hs b hb
  refine rowV_range h1 _ _ fun j hj => ?_
  rw [bv_len, Dk.blk_size hs i hi] at hj
  rw [List.getElem?_append_left (by
    rw [flat_len bv 512 B hk]
    have := Nat.mul_le_mul_right 512 (show i + 1 ≤ B.length from hi)
    omega), flat_at bv 512 B hk i hi j hj, ← Dk.getD_get B i ByteArray.empty hi]
theorem blocks_there {w : World} {g c : Nat} {B : List ByteArray} (h : BlocksAt w g c B) (hs : ∀ b ∈ B, b.size = 512) (i : Nat) (hi : i < B.length) : w.there g (i * 512) 512 := by
  obtain ⟨r, h1, _⟩ := h
  have hk : ∀ b ∈ B, (bv b).length = 512 := fun b hb => by rw [bv_len]; exact hs b hb
  refine rowV_there h1 _ _ ?_
  rw [List.length_append, flat_len bv 512 B hk]
  have := Nat.mul_le_mul_right 512 (show i + 1 ≤ B.length from hi)
  omega
theorem blocks_set {w : World} {g c : Nat} {B : List ByteArray} (h : BlocksAt w g c B) (hs : ∀ b ∈ B, b.size = 512) (i : Nat) (hi : i < B.length) (x : ByteArray) (hx : x.size = 512) : BlocksAt (w.setCells g (i * 512) (bv x)) g c (B.set i x) := by
  obtain ⟨r, h1, h2, h3⟩ := h
  have hk : ∀ b ∈ B, (bv b).length = 512 := fun b hb => by rw [bv_len]; exact hs b hb
  have hle := Nat.mul_le_mul_right 512 (show i + 1 ≤ B.length from hi)
  have hl : (B.flatMap bv ++ r).length = B.length * 512 + r.length := by rw [List.length_append, flat_len bv 512 B hk]
  have h4 := rowV_setCells (bv x) (i * 512) h1 (by rw [bv_len, hx, hl]; omega)
  rw [bv_len, hx, flat_set bv 512 B hk i hi x r] at h4
  exact ⟨r, h4, by rw [List.length_set]; exact h2, h3⟩
theorem blocksAt_cells {w : World} {g c g' : Nat} {B : List ByteArray} (h : BlocksAt w g c B) (hg : g ≠ g') (o : Nat) (vs : List Value) : BlocksAt (w.setCells g' o vs) g c B := by
  obtain ⟨r, h1, h2⟩ := h
  exact ⟨r, rowV_cellsFar h1 hg o vs, h2⟩
/-- loose write k's block number and bytes -/
theorem loose_at {w : World} {g : Nat} {W : List (Nat × ByteArray)} {r : List Value} (h : RowV w g 69 (W.flatMap wv ++ r)) (hs : ∀ x ∈ W, x.2.size = 512) (k : Nat) (hk : k < W.length) :
    w.cell? ⟨g, k * 513, none⟩ = some (.int .i64 ((W.getD k (0, ByteArray.empty)).1 : Int)) ∧ w.rangeAt g (k * 513 + 1) (bv (W.getD k (0, ByteArray.empty)).2) := by
  have hl : ∀ x ∈ W, (wv x).length = 513 := fun x hx => wv_len x (hs x hx)
  have hlen := flat_len wv 513 W hl
  have hle := Nat.mul_le_mul_right 513 (show k + 1 ≤ W.length from hk)
  have e := Dk.getD_get W k (0, ByteArray.empty) hk
  have hz : (W.getD k (0, ByteArray.empty)).2.size = 512 := hs _ (Dk.getD_mem W k _ hk)
  constructor
  · have h0 := flat_at wv 513 W hl k hk 0 (by omega)
    rw [rowV_cell h, List.getElem?_append_left (by rw [hlen]; omega)]
    rw [Nat.add_zero] at h0
    rw [h0, ← e]; rfl
  · refine rowV_range h _ _ fun j hj => ?_
    rw [bv_len, hz] at hj
    have h0 := flat_at wv 513 W hl k hk (1 + j) (by omega)
    rw [List.getElem?_append_left (by rw [hlen]; omega), show k * 513 + 1 + j = k * 513 + (1 + j) by omega, h0, ← e]
    show (_ :: bv _)[1 + j]? = _
    rw [Nat.add_comm, List.getElem?_cons_succ]

set_option maxRecDepth 100000 in
set_option maxHeartbeats 1600000 in
theorem settle_any {w : World} {S : Nat → Prop} {p gn gk cn ck cap : Nat} {la : Option Addr} {d : Dk.D} (gt ct gf cf : Nat) (T F : List ByteArray)
    (hd : Dk.Ok d) (hh : HeadAt w p gn gk cn ck la cap d) (hl : LooseAt w S p gn gk la cap d.W) (hT : BlocksAt w gt ct T) (hF : BlocksAt w gf cf F) (zT : ∀ b ∈ T, b.size = 512) (zF : ∀ b ∈ F, b.size = 512)
    (lT : T.length = d.B.length) (lF : F.length = d.B.length) (n1 : gt ≠ p) (n2 : gt ≠ gf) (n3 : gf ≠ p) (n4 : ∀ a, la = some a → a.block ≠ gt) :
    Calls Try.prog 32 #[.pointer (some ⟨p, 0, none⟩), .slice (some ⟨gt, 0, none⟩) d.B.length ct, .slice (some ⟨gf, 0, none⟩) d.B.length cf] w fun e w' => e = .returned (.tuple #[]) ∧
      HeadAt w' p gn gk cn ck none 0 { d with W := [] } ∧ BlocksAt w' gt ct (Dk.settleK T F d.W d.W.length) ∧ Only (fun k => k = p ∨ k = gt) w w' := by
  have c2 := head_loose hh
  have hmost := hd.most
  have HH := Lib.hid (And.intro hd (And.intro hh (And.intro hl (And.intro hT (And.intro hF (And.intro zT (And.intro zF (And.intro lT (And.intro lF (And.intro n1 (And.intro n2 (And.intro n3 n4))))))))))))
  clear hd hh hl hT hF zT zF lT lF n1 n2 n3 n4
  go_enter Try.func32, Try.ntmps32
  go_wp2_with fail
  go_loopw [6, 7, 13] (fun _ _ i wr => ∃ k : Nat, k ≤ d.W.length ∧ i = .int .i64 (k : Int) ∧ Hid (BlocksAt wr gt ct (Dk.settleK T F d.W k)) ∧ Hid (Only (fun k => k = gt) w wr))
    (fun _ _ i _ => d.W.length - (intOf i).toNat)
  case atStart => exact ⟨0, by omega, rfl, Lib.hid HH.out.2.2.2.1, Lib.hid (Only.refl _ _)⟩
  case round =>
    obtain ⟨k, hk, rfl, HR, HO⟩ := hrel
    by_cases hlt : k < d.W.length
    · obtain ⟨hd, hh, hl, hT, hF, zT, zF, lT, lF, n1, n2, n3, n4⟩ := HH.out
      obtain ⟨g, r, rfl, hg, hcap, hmax, g1, g2, g3, hown⟩ : ∃ g r, la = some ⟨g, 0, none⟩ ∧ RowV w g 69 (d.W.flatMap wv ++ r) ∧ d.W.length ≤ cap ∧ cap ≤ maxLen ∧ g ≠ p ∧ g ≠ gn ∧ g ≠ gk ∧ (d.W.length < cap → S g ∧ d.W.length * 513 + r.length = cap * 513) := by
        rcases hl with ⟨_, _, h⟩ | h
        · rw [h] at hlt; simp at hlt
        · exact h
      have hgt : g ≠ gt := n4 _ rfl
      have hm := hd.loose _ (Dk.getD_mem d.W k (0, ByteArray.empty) hlt)
      have hr2 := rowV_only hg HO.out (fun e => hgt e)
      have hh2 : HeadAt wr p gn gk cn ck (some ⟨g, 0, none⟩) cap d := rowV_only hh HO.out (fun e => n1 e.symm)
      have cl := head_loose hh2
      have ca := (loose_at hr2 (fun x hx => (hd.loose x hx).2) k hlt).1
      have zK : ∀ b ∈ Dk.settleK T F d.W k, b.size = 512 := by
        intro b hb
        have : ∀ m, m ≤ d.W.length → ∀ b ∈ Dk.settleK T F d.W m, b.size = 512 := by
          intro m
          induction m with
          | zero => intro _; exact zT
          | succ m ih => intro hm2; exact Dk.all_set (ih (by omega)) _ _ (Dk.blk_size zF _ (by rw [lF]; exact (hd.loose _ (Dk.getD_mem d.W m _ (by omega))).1))
        exact this k hk b hb
      have hat : (d.W.getD k (0, ByteArray.empty)).1 < (Dk.settleK T F d.W k).length := by rw [Dk.settleK_len, lT]; exact hm.1
      have r1 := blocks_range HR.out zK _ hat
      have t1 := blocks_there HR.out zK _ hat
      have hF2 : BlocksAt wr gf cf F := blocksAt_only hF HO.out (fun e => n2 e.symm)
      have haf : (d.W.getD k (0, ByteArray.empty)).1 < F.length := by rw [lF]; exact hm.1
      have r2 := blocks_range hF2 zF _ haf
      have s1 := Dk.blk_size zK _ hat
      have s2 := Dk.blk_size zF _ haf
      have hset := blocks_set HR.out zK _ hat _ s2
      have hsame := Dk.settleK_same T F d.W k
      have hsucc : (Dk.settleK T F d.W k).set (d.W.getD k (0, ByteArray.empty)).1 (Dk.blk F (d.W.getD k (0, ByteArray.empty)).1) = Dk.settleK T F d.W (k + 1) := rfl
      rw [hsucc] at hset
      have honly := HO.out.setCells (g := gt) (fun _ => rfl) ((d.W.getD k (0, ByteArray.empty)).1 * 512) (bv (Dk.blk F (d.W.getD k (0, ByteArray.empty)).1))
      have hmB := hm.1
      have hWm : d.W.length ≤ maxLen := Nat.le_trans hcap hmax
      unfold maxLen at hWm
      clear hsucc hF2 haf hat zK hh2 hr2 hm hown g1 g2 g3 hgt hg hh hl hT hF zT zF lT lF n1 n2 n3 n4 hd hcap hmax
      obtain ⟨TK2, hTK2⟩ : ∃ A, Dk.settleK T F d.W (k + 1) = A := ⟨_, rfl⟩
      have hTK := Lib.hid hTK2
      rw [hTK2] at hset hsame
      clear hTK2
      have hsm : Dk.blk (Dk.settleK T F d.W k) (d.W.getD k (0, ByteArray.empty)).1 = Dk.blk F (d.W.getD k (0, ByteArray.empty)).1 → BlocksAt wr gt ct TK2 := fun h => by rw [hsame h]; exact HR.out
      have honly0 := HO.out
      clear hsame
      generalize Dk.blk (Dk.settleK T F d.W k) (d.W.getD k (0, ByteArray.empty)).1 = X at *
      generalize Dk.blk F (d.W.getD k (0, ByteArray.empty)).1 = Y at *
      generalize (d.W.getD k (0, ByteArray.empty)).1 = at_ at *
      have hneq := fun w0 => neq_block w0 X Y s1 s2
      have hgd := fun w0 x y => guard_block w0 x y (bv X).toArray (bv Y).toArray
      have hu := block_under
      have i1 := block_size X s1
      have i2 := block_size Y s2
      have l1 : (bv X).length = 512 := by rw [bv_len, s1]
      have l2 : (bv Y).length = 512 := by rw [bv_len, s2]
      have o1 := bv_one X
      have o2 := bv_one Y
      by_cases hXY : X = Y
      · have HF := Lib.hid (And.intro (hsm hXY) honly0)
        have t : (!decide (X = Y)) = false := by simp [hXY]
        simp only [t] at hneq
        clear hXY t hsm hset honly honly0 s1 s2 HR HO
        generalize bv X = LX at *
        generalize bv Y = LY at *
        go_wp2_with fail
        refine wp_region_quiet_lit (by kernel_rfl) (by kernel_rfl) ?_
        iterate 3 (go_big_quiet_step (fail))
        refine wpQuiet_load_mid rfl _ _ rfl _ _ rfl LX _ r1 hu rfl i1 ?_
        simp only [Act.put, List.setIfInBounds_toArray, List.set_cons_zero, List.set_cons_succ]
        iterate 3 (go_big_quiet_step (fail))
        refine wpQuiet_load_mid rfl _ _ rfl _ _ rfl LY _ r2 hu rfl i2 ?_
        simp only [Act.put, List.setIfInBounds_toArray, List.set_cons_zero, List.set_cons_succ]
        go_big_quiet_step (fail)
        refine wpQuiet_nil ?_
        rintro _ ⟨nq, rfl⟩
        go_wp2_with fail
        go_roundw
        case rel => exact ⟨k + 1, by omega, by go_num, Lib.hid (by rw [hTK.out]; exact HF.out.1), Lib.hid (HF.out.2.drewN _)⟩
        case measure => simp [intOf]; omega
      · have t : (!decide (X = Y)) = true := by simp [hXY]
        simp only [t] at hneq
        clear t hsm hXY s1 s2 honly0 HR HO
        have HF := Lib.hid (And.intro hset honly)
        clear hset honly
        generalize bv X = LX at *
        generalize bv Y = LY at *
        go_wp2_with fail
        refine wp_region_quiet_lit (by kernel_rfl) (by kernel_rfl) ?_
        iterate 3 (go_big_quiet_step (fail))
        refine wpQuiet_load_mid rfl _ _ rfl _ _ rfl LX _ r1 hu rfl i1 ?_
        simp only [Act.put, List.setIfInBounds_toArray, List.set_cons_zero, List.set_cons_succ]
        iterate 3 (go_big_quiet_step (fail))
        refine wpQuiet_load_mid rfl _ _ rfl _ _ rfl LY _ r2 hu rfl i2 ?_
        simp only [Act.put, List.setIfInBounds_toArray, List.set_cons_zero, List.set_cons_succ]
        go_big_quiet_step (fail)
        refine wpQuiet_nil ?_
        rintro _ ⟨nq, rfl⟩
        generalize hwq : wr.drewN nq = wq
        have r2q : wq.rangeAt gf (at_ * 512) LY := by rw [← hwq]; exact r2
        have t1q : wq.there gt (at_ * 512) LY.toArray.size := by rw [← hwq, List.size_toArray, l2]; exact t1
        have HQ : Hid (BlocksAt (wq.setCells gt (at_ * 512) LY.toArray.toList) gt ct TK2 ∧ Only (fun k => k = gt) w (wq.setCells gt (at_ * 512) LY.toArray.toList)) := Lib.hid (by
          rw [← hwq, setCells_drewN]
          exact ⟨HF.out.1, HF.out.2.drewN _⟩)
        clear hwq HF r2 t1
        go_wp2_with (first
          | (refine wpList_load_mid rfl _ _ rfl _ _ rfl LY _ r2q hu rfl i2 ?_)
          | (refine wpList_store_mid rfl _ _ _ rfl gt (at_ * 512) LY.toArray rfl rfl t1q (by rw [List.size_toArray]; exact i2) (all_oneCell_toArray o2) ?_))
        go_roundw
        case rel => exact ⟨k + 1, by omega, by go_num, Lib.hid (by rw [hTK.out]; exact HQ.out.1), Lib.hid HQ.out.2⟩
        case measure => simp [intOf]; omega
    · obtain rfl : k = d.W.length := by omega
      obtain ⟨hd, hh, hl, hT, hF, zT, zF, lT, lF, n1, n2, n3, n4⟩ := HH.out
      have hh2 : HeadAt wr p gn gk cn ck la cap d := rowV_only hh HO.out (fun e => n1 e.symm)
      have f2 := rowV_frozen hh2 2
      have c2' := head_loose hh2
      have hst := rowV_stored hh2 2 (.slice none 0 0)
      have hb := blocksAt_only HR.out ((Only.refl (fun k => k = p) wr).setCell (g := p) (i := 2) (fun _ => rfl) (.slice none 0 0)) (fun e => n1 e)
      have ho := (HO.out.mono (G := fun k => k = p ∨ k = gt) fun k _ h => .inr h).setCell (g := p) (i := 2) (fun _ => .inl rfl) (.slice none 0 0)
      have HE := Lib.hid (And.intro hst (And.intro hb ho))
      clear hd hh hl hT hF zT zF lT lF n1 n2 n3 n4 hh2 hst hb ho HR HO
      go_wp2_with fail
      go_end0
      exact ⟨rfl, HE.out.1, HE.out.2.1, HE.out.2.2⟩
end Go.Proofs.Ytjefmmbkkdaeiaa
