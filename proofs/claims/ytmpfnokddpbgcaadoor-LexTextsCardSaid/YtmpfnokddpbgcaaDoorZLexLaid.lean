/-
  Layer 13: what the rows' condition on the listed variables gives the walks; the program's own start meets it.
-/
import Derived.Test.YtmpfnokddpbgcaaDoorRows
import Derived.Test.YtmpfnokddpbgcaaDoorPk2
import Derived.Test.YtmpfnokddpbgcaaDoorPk1
import Derived.Test.YtmpfnokddpbgcaaDoorZLexLawsW
import Derived.Lib.LaidTab
import Derived.LaidMore
import Derived.Stop.Joined
namespace Go.Proofs.YtmpfnokddpbgcaaDoor
open Go.RowKit
def laidL : List (String × DataW Unit) := [("math/bits.deBruijn32tab", Rows.laid_math_bits_deBruijn32tab), ("math/bits.deBruijn64tab", Rows.laid_math_bits_deBruijn64tab), ("internal/strconv.uint64pow10", Rows.laid_internal_strconv_uint64pow10), ("strconv.ErrRange", Rows.laid_strconv_ErrRange), ("strconv.ErrSyntax", Rows.laid_strconv_ErrSyntax)]
theorem gPow10 : Tryd.prog.globalNamed "internal/strconv.uint64pow10" = some 3 := by kernel_rfl
theorem tPow10 : (Tryd.prog.globals[3]?).map (·.type) = some 109 := by kernel_rfl
theorem cellsU64 : Tryd.prog.cellsOf 90 = 1 := by kernel_rfl
theorem cells20 : Tryd.prog.cellsOf 109 = 20 := by kernel_rfl
theorem laid_pow10 : (Rows.laid_internal_strconv_uint64pow10 : DataW Unit) = Lib.tabData .u64 Lib.pow10Tab := by kernel_rfl
/-- without the first -/
theorem laidMet_tail {P : Program} {x : String × DataW Unit} {rest : List (String × DataW Unit)} {W : World} (h : laidMet P (x :: rest) W) : laidMet P rest W := by
  obtain ⟨ps, ⟨g', t', cs, fuel, p, q, _, _, _, _, hr, hps⟩, hn, hb⟩ := h
  subst hps
  exact ⟨q, hr, (List.nodup_append.1 hn).2.1, fun b off hm => hb b off (List.mem_append_right _ hm)⟩
theorem door_met (os : Os) (args : Array Value) : laidMetH Tryd.prog laidL ((World.doorLaid Tryd.prog 400 os).forCall (fun _ _ => 0) ⟨#[], args, []⟩).memory :=
  laidMetH_of_parts3 (fuel := 8) (laidMet_of_run' 8 (by kernel_rfl) (by kernel_rfl)) (by kernel_rfl) (by kernel_rfl)
theorem gErrRange : Tryd.prog.globalNamed "strconv.ErrRange" = some 2 := by kernel_rfl
theorem tErrRange : (Tryd.prog.globals[2]?).map (·.type) = some 60 := by kernel_rfl
/-- an error variable that reads as an interface over something holds one -/
theorem trod_iface {P : Program} {H : Type} {enc : TypeId × Value → H} {w : World} {base : Nat} {spare : Nat → Bool} {held : Bool} {fuel : Nat} {t : TypeId} {cs : List Value} {k : Array (String × TypeId)} {ty : String} {d : DataW H} {p : List MemPlace}
    (ht : P.underlying t = some (.interface k)) (h : DataW.trod enc P w base spare held fuel t cs = some (.iface ty d, p)) : ∃ te pe, cs = [.iface te pe] := by
  cases fuel with
  | zero => simp [DataW.trod] at h
  | succ n =>
    unfold DataW.trod at h
    rw [ht] at h
    split at h <;> simp_all
theorem err_of_head {P : Program} {W : World} {name ty : String} {d : DataW Unit} {rest : List (String × DataW Unit)} {g t : Nat} {k : Array (String × TypeId)}
    (hg : P.globalNamed name = some g) (hty : (P.globals[g]?).map (·.type) = some t) (ht : P.underlying t = some (.interface k)) (h : laidMet P ((name, .iface ty d) :: rest) W) : ∃ te pe, W.cell? ⟨g, 0, none⟩ = some (.iface te pe) := by
  obtain ⟨ps, ⟨g', t', cs, fuel, p, q, hg', ht', hvar, hd, _, _⟩, _⟩ := h
  obtain rfl := Option.some.inj (hg.symm.trans hg')
  obtain rfl := Option.some.inj (hty.symm.trans ht')
  obtain ⟨te, pe, hcs⟩ := trod_iface ht hd
  refine ⟨te, pe, ?_⟩
  have := World.var?_cell hg hvar 0
  rw [this]
  obtain ⟨l⟩ := cs
  have hl : l = [.iface te pe] := hcs
  rw [hl]; rfl
/-- the tables and the error, out of the condition -/
theorem facts_of_laid {W : World} (h : laidMetH Tryd.prog laidL W) : Facts13 W := by
  rw [MakeChecks.laidMetH_plain _ _ _ (by kernel_rfl)] at h
  have h3 := laidMet_tail (laidMet_tail h)
  have h4 := laidMet_tail h3
  rw [laid_pow10] at h3
  exact ⟨Lib.tabIs_of_head gPow10 tPow10 Tryd.underlying109 Tryd.underlying90 cellsU64 cells20 h3, err_of_head gErrRange tErrRange Tryd.underlying60 h4⟩
end Go.Proofs.YtmpfnokddpbgcaaDoor
