/-
  A text copied into a row of bytes that the call made: what the row holds, as a list of bytes.
-/
import Derived.Test.YtdcpfpefmndidaaDskArr
import Derived.Deep.AppendSrc
import Derived.ArgAppend
namespace Go.Proofs.Ytdcpfpefmndidaa
open Go.RowKit

theorem one_byte : (Try.prog.info? 5).map (·.size) = some 1 := by kernel_rfl
/-- a text copied into a row that is as long, or longer -/
theorem wpList_copy_str {P : Program} {w : World} {ops : Array Oper} {rest : List Oper} {o : Oper} {a : Act} {Q : Exit → Act → World → Prop} (hgd : o.guard = none) (d s : Operand) (dT sT : TypeId)
    (ho : o.op = .call { callee := .builtin .copy, args := #[d, s], argTypes := #[dT, sT] }) (elem : TypeId) (hu : P.underlying dT = some (.slice elem)) (hsz : (P.info? elem).map (·.size) = some 1)
    (g off dLen dCap : Nat) (hd : a.eval d = .slice (some ⟨g, off, none⟩) dLen dCap) (str : ByteArray) (hs : a.eval s = .string str) (hn : str.size ≤ dLen) (ht : w.there g off dLen)
    (h : wpList P ops Q rest (a.put o.dst (goInt str.size)) (w.setCells g off (bv str))) : wpList P ops Q (o :: rest) a w := by
  refine wpList_plain hgd fun K hK => ?_
  have hst := run_storeCells_cells (P := P) g off (bv str) 0 w (fun j hj => by rw [bv_len] at hj; simpa using (ht j (by omega)).1) (fun j hj => by rw [bv_len] at hj; simpa using (ht j (by omega)).2) (bv_one str)
  obtain ⟨i, hi, hi2⟩ := Option.map_eq_some_iff.1 hsz
  have hf := firstCells_string (P := P) str w
  have hrun : (Builtin.copy_ #[dT, sT] o.type #[.slice (some ⟨g, off, none⟩) dLen dCap, .string str]).run P w = .ok (goInt str.size) (w.setCells g off (bv str)) := by
    rw [Nat.add_zero] at hst
    have e : (byteCells str) = bv str := rfl
    rw [e] at hf
    have em : str.size.min dLen = str.size := Nat.min_eq_left hn
    simp [Builtin.copy_, run_underlying hu, Builtin.lenOf, sizeOf, typeInfo, hi, hi2, hf, hst, em]
  unfold Oper.wp
  simp [execOp, ho, resolve, invoke, builtin, hd, hs, hrun, Result.andThen]
  exact hK _ _ h
/-- bytes, over which from o on others are written -/
def spl (l : List UInt8) (o : Nat) (x : List UInt8) : List UInt8 := l.take o ++ x ++ l.drop (o + x.length)
theorem spl_len (l : List UInt8) (o : Nat) (x : List UInt8) (h : o + x.length ≤ l.length) : (spl l o x).length = l.length := by
  unfold spl; rw [List.length_append, List.length_append, List.length_take, List.length_drop]; omega
theorem spl_end (a x : List UInt8) (o m : Nat) (ha : a.length = o) (_h : x.length ≤ m) : spl (a ++ List.replicate m 0) o x = a ++ x ++ List.replicate (m - x.length) 0 := by
  subst ha
  unfold spl
  rw [List.take_left' rfl, List.drop_append, List.drop_of_length_le (by omega), List.nil_append, show a.length + x.length - a.length = x.length by omega, List.drop_replicate]
theorem valB_app (a b : List UInt8) : valB (a ++ b) = valB a ++ valB b := by unfold valB; rw [List.map_append]
theorem valB_len (l : List UInt8) : (valB l).length = l.length := by unfold valB; rw [List.length_map]
theorem valB_spl (l x : List UInt8) (o : Nat) : (valB l).take o ++ valB x ++ (valB l).drop (o + (valB x).length) = valB (spl l o x) := by
  rw [valB_len]; unfold spl valB
  rw [List.map_append, List.map_append, List.map_take, List.map_drop]
/-- the block that the call made first holds these n bytes -/
structure Laid (w0 w : World) (g T n : Nat) (p : List UInt8) : Prop where
  row : RowV w g T (valB p)
  len : p.length = n
  below : Below w0.heap.size w0 w
  new : w0.heap.size ≤ g
theorem laid_drewN {w0 w : World} {g T n : Nat} {p : List UInt8} (h : Laid w0 w g T n p) (k : Nat) : Laid w0 (w.drewN k) g T n p := ⟨h.row, h.len, h.below.trans (below_drewN (Below.refl _ _) k), h.new⟩
theorem laid_drew {w0 w : World} {g T n : Nat} {p : List UInt8} (h : Laid w0 w g T n p) : Laid w0 w.drew g T n p := laid_drewN h 1
theorem laid_below {w0 w w' : World} {g T n : Nat} {p : List UInt8} (h : Laid w0 w g T n p) (hb : Below w.heap.size w w') : Laid w0 w' g T n p :=
  ⟨rowV_below h.row hb (rowV_lt h.row), h.len, below_two h.below hb, h.new⟩
theorem laid_there {w0 w : World} {g T n : Nat} {p : List UInt8} (h : Laid w0 w g T n p) (o k : Nat) (hk : o + k ≤ n) : w.there g o k := rowV_there h.row o k (by rw [valB_len, h.len]; exact hk)
theorem laid_put {w0 w : World} {g T n : Nat} {p : List UInt8} (h : Laid w0 w g T n p) (o : Nat) (s : ByteArray) (hk : o + s.size ≤ n) : Laid w0 (w.setCells g o (bv s)) g T n (spl p o s.data.toList) := by
  have hl := h.len
  have hs : s.data.toList.length = s.size := ba_len s
  have hlt := rowV_lt h.row
  refine ⟨?_, by rw [spl_len _ _ _ (by omega)]; exact hl, ?_, h.new⟩
  · rw [← valB_spl]
    exact rowV_setCells (valB s.data.toList) o h.row (by rw [valB_len, valB_len]; omega)
  · have hn := h.new
    exact ((Only.of_below h.below).setCells (fun _ => hn) o (bv s)).below (fun k _ hf => hf) (Nat.le_refl _)
theorem laid_conv {w0 w : World} {g T n : Nat} {p : List UInt8} (h : Laid w0 w g T n p) :
    (convert 37 9 (.slice (some ⟨g, 0, none⟩) n n)).run Try.prog w = .ok (.string ⟨p.toArray⟩) w := by
  have hl := h.len
  have e := run_convert_bytes_back (P := Try.prog) w 37 9 5 ⟨g, 0, none⟩ n p Try.underlying37 Try.underlying5 Try.underlying9 (fun j hj => by
    rw [Addr.add_mid, Nat.zero_add, rowV_cell h.row]
    unfold valB
    rw [List.getElem?_map, List.getElem?_eq_getElem hj]; rfl)
  rw [hl] at e
  exact e
theorem laid_new (w : World) (T n : Nat) (p : List UInt8) (h : p.length = n) : Laid w (w.alloc (.cells (valB p).toArray T)) w.heap.size T n p :=
  ⟨rowV_new w T (valB p), h, (Below.refl _ w).alloc (Nat.le_refl _) _, Nat.le_refl _⟩
end Go.Proofs.Ytdcpfpefmndidaa
