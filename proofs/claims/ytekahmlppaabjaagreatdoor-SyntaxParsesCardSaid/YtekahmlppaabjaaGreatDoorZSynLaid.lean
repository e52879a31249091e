/-
  Layer 14: what the rows' condition on the listed variables gives the walks (six variables: the table of ops of two too); the program's own start meets it.
-/
import Derived.Test.YtekahmlppaabjaaGreatDoorPk6
import Derived.Test.YtekahmlppaabjaaGreatDoorZSynLives
namespace Go.Proofs.YtekahmlppaabjaaGreatDoor
open Go.RowKit
open Go
def laidL14 : List (String × DataW Unit) := laidL ++ [("decretal/syntax.twos", Rows.laid_decretal_syntax_twos)]
/-- the table of ops of two, as it is listed -/
def twosZ : List (List UInt8 × Int) := [([], 0), ([], 0), ([], 0), ([], 0), (Sx.sign 4, 4), (Sx.sign 5, 4), (Sx.sign 6, 5), (Sx.sign 7, 5), (Sx.sign 8, 3), (Sx.sign 9, 3), (Sx.sign 10, 3), (Sx.sign 11, 3), (Sx.sign 12, 3), (Sx.sign 13, 3), (Sx.sign 14, 2), (Sx.sign 15, 1)]
def pairsData {H : Type} (zs : List (List UInt8 × Int)) : DataW H := .agg (zs.map fun z => .agg [.lit (.string z.1), .lit (.int .i64 z.2)])
theorem laid_twos : (Rows.laid_decretal_syntax_twos : DataW Unit) = pairsData twosZ := by kernel_rfl
theorem door_met14 (os : Os) (args : Array Value) : laidMetH Tryz.prog laidL14 ((World.doorLaid Tryz.prog 400 os).forCall (fun _ _ => 0) ⟨#[], args, []⟩).memory :=
  laidMetH_of_parts3 (fuel := 8) (laidMet_of_run' 8 (by kernel_rfl) (by kernel_rfl)) (by kernel_rfl) (by kernel_rfl)
/-- an array of pairs of a text and a number, cell for cell -/
theorem cells_of_pairs {H : Type} {enc : TypeId × Value → H} {P : Program} {w : World} {base : Nat} {sp : Nat → Bool} {held : Bool} {fuel : Nat} {t e st it : TypeId} {n : Nat} {f0 f1 : Field} {cs : List Value} {zs : List (List UInt8 × Int)} {p : List MemPlace}
    (ht : P.underlying t = some (.array n e)) (he : P.underlying e = some (.struct #[f0, f1])) (hs : P.underlying st = some .string) (hi : P.underlying it = some (.int .i64)) (h0 : f0.type = st ∧ f0.offset = 0) (h1 : f1.type = it ∧ f1.offset = 1)
    (hcs : P.cellsOf st = 1) (hci : P.cellsOf it = 1) (hce : P.cellsOf e = 2) (hct : P.cellsOf t = n * 2)
    (h : DataW.trod enc P w base sp held fuel t cs = some (pairsData zs, p)) : ∀ k (hk : k < zs.length), cs[k * 2]? = some (.string ⟨zs[k].1.toArray⟩) ∧ cs[k * 2 + 1]? = some (.int .i64 zs[k].2) := by
  cases fuel with
  | zero => simp [DataW.trod] at h
  | succ fuel =>
    simp only [DataW.trod, ht, hce, hct] at h
    split at h
    · rename_i hl
      obtain ⟨xs, hm, hx⟩ := Option.map_eq_some_iff.1 h
      have hxs : xs.map (·.1) = zs.map fun z => (DataW.agg [.lit (.string z.1), .lit (.int .i64 z.2)] : DataW H) := by
        have := congrArg Prod.fst hx
        simpa [pairsData] using this
      have hxl : xs.length = n := by simpa using Lib.mapM_length hm
      have hzl : zs.length = n := by
        have := congrArg List.length hxs
        simp at this
        omega
      intro k hk
      have hkn : k < n := by omega
      obtain ⟨b, hb, hf⟩ := Lib.mapM_at hm k k (by simp [hkn])
      obtain ⟨ys, m, rfl, hy, hlen, hyl, hfs⟩ := DataW.trod_struct he hf
      have g0 := hfs 0 f0 rfl
      have g1 := hfs 1 f1 rfl
      rw [h0.1, h0.2, hcs] at g0
      rw [h1.1, h1.2, hci] at g1
      have hy2 : ys.length = 2 := hyl
      obtain ⟨y0, y1, rfl⟩ : ∃ a b, ys = [a, b] := by
        match ys, hy2 with
        | [a, b], _ => exact ⟨a, b, rfl⟩
      simp only [List.getElem?_cons_zero, List.getElem?_cons_succ] at g0 g1
      obtain ⟨s, hc0, hd0, _⟩ := DataW.trod_string hs g0
      obtain ⟨z, hc1, hd1, _⟩ := DataW.trod_int hi g1
      have h2 : (xs.map (·.1))[k]? = some b.1 := by simp [hb]
      rw [hxs, List.getElem?_map, List.getElem?_eq_getElem hk, Option.map_some] at h2
      rw [hy, hd0, hd1] at h2
      simp only [List.map_cons, List.map_nil, Option.some.injEq, DataW.agg.injEq, List.cons.injEq, DataW.lit.injEq, Lit.string.injEq, Lit.int.injEq, true_and, and_true] at h2
      have c0 := congrArg (·[0]?) hc0
      have c1 := congrArg (·[0]?) hc1
      simp [List.getElem?_drop] at c0 c1
      refine ⟨?_, ?_⟩
      · rw [c0, h2.1]
      · rw [c1, h2.2]
    · cases h
theorem gTwos : Tryz.prog.globalNamed "decretal/syntax.twos" = some 0 := by kernel_rfl
theorem tTwos : (Tryz.prog.globals[0]?).map (·.type) = some 73 := by kernel_rfl
theorem twos_at : ∀ (k : Nat) (hk : k < 16), 4 ≤ k → (⟨(twosZ[k]'hk).1.toArray⟩ : ByteArray) = Lx.mk (Sx.sign k) ∧ (twosZ[k]'hk).2 = ((Sx.lvl k : Nat) : Int) := by decide +kernel
theorem twos_of_head {W : World} {rest : List (String × DataW Unit)} (h : laidMet Tryz.prog (("decretal/syntax.twos", pairsData twosZ) :: rest) W) : Twos W := by
  obtain ⟨ps, ⟨g', t', cs, fuel, p, q, hg', ht', hvar, hd, _, _⟩, _⟩ := h
  obtain rfl := Option.some.inj (gTwos.symm.trans hg')
  obtain rfl := Option.some.inj (tTwos.symm.trans ht')
  intro k h4 h15
  have hk : k < 16 := by omega
  have hc := cells_of_pairs (st := 9) (it := 3) Tryz.underlying73 Tryz.underlying72 Tryz.underlying9 Tryz.underlying3 ⟨rfl, rfl⟩ ⟨rfl, rfl⟩ (by kernel_rfl) (by kernel_rfl) (by kernel_rfl) (by kernel_rfl) hd k hk
  have ht := twos_at k hk h4
  rw [ht.1, ht.2] at hc
  rw [World.var?_cell gTwos hvar, World.var?_cell gTwos hvar]
  exact ⟨by simpa using hc.1, by simpa using hc.2⟩
/-- the tables and the error, out of the condition -/
theorem facts_of_laid14 {W : World} (h : laidMetH Tryz.prog laidL14 W) : Facts14 W := by
  rw [MakeChecks.laidMetH_plain _ _ _ (by kernel_rfl)] at h
  have h3 := laidMet_tail (laidMet_tail h)
  have h4 := laidMet_tail h3
  have h6 := laidMet_tail (laidMet_tail h4)
  rw [laid_pow10] at h3
  rw [laid_twos] at h6
  exact ⟨Lib.tabIs_of_head gPow10 tPow10 Tryz.underlying146 Tryz.underlying132 cellsU64 cells20 h3, err_of_head gErrRange tErrRange Tryz.underlying97 h4, twos_of_head h6⟩
end Go.Proofs.YtekahmlppaabjaaGreatDoor
