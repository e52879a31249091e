/-
  sort.Search: the library's contract at this program's own numbers.
-/
import Derived.Shelf.SlSorted.Search
import Derived.Test.YtjlglfhnnipjaaaDump
import Derived.Test.YtjlglfhnnipjaaaBase
namespace Go.Proofs
open Go.Shelf
def Try.sch_ren : Go.Shelf.Ren := ⟨fun | 16 => 35 | n => n, fun | 3 => 3 | 4 => 4 | 35 => 63 | 38 => 78 | n => n, fun | n => n⟩
theorem Try.sch16 : Go.Proofs.SlLaysO.n16 Try.prog Try.sch_ren := {
  mixed := by kernel_rfl
  f16 := Try.func35.trans (congrArg some (by kernel_rfl))
  t3 := Try.underlying3
  a3 := Try.isAgg3
  z3 := Try.sizeOf3
  v3 := Try.zeroValue3
  t4 := Try.underlying4
  a4 := Try.isAgg4
  z4 := Try.sizeOf4
  v4 := Try.zeroValue4
  t35 := Try.underlying63
  a35 := Try.isAgg63
  z35 := Try.sizeOf63
  v35 := Try.zeroValue63
  t38 := Try.underlying78
  a38 := Try.isAgg78
  z38 := Try.sizeOf78
  v38 := Try.zeroValue78 }
namespace Ytjlglfhnnipjaaa
open Go.RowKit Go.Lib Go.Sort
theorem search_any (g : Nat) (cb : Array Value) (n : Nat) (p : Nat → Bool) (w : World) (eg : ∀ args w, (callFunc g args).run Try.prog w = .ok (.enter g args) w) (hsz : n < 4611686018427387904)
    (hf : ∀ (m : Nat) (os : Array Obj) (i : Nat), i < n → Calls Try.prog g (#[.int .i64 i] ++ cb) (grow (w.drewN m) os) fun e w' => e = .returned (.bool (p i)) ∧ ∃ q os', w' = grow ((grow (w.drewN m) os).drewN q) os')
    (hmono : ∀ a b, a ≤ b → b < n → p a = true → p b = true) :
    Calls Try.prog 35 #[.int .i64 n, .func (.func g) #[] cb] w fun e w' => e = .returned (.int .i64 ((List.range n).countP (fun i => !p i) : Nat)) ∧ Below w.heap.size w w' :=
  (Any.sort_Search Try.sch16 g cb n p w eg hsz hf hmono).mono fun _ _ ⟨h1, q, os, h2⟩ => ⟨h1, by rw [h2]; exact below_grown_sl w.heap.size w q os (Nat.le_refl _)⟩
/-- counting what lies below a boundary -/
theorem count_below (n u : Nat) (p : Nat → Bool) (hu : u ≤ n) (h : ∀ i, i < n → (p i = true ↔ ¬ i < u)) : (List.range n).countP (fun i => !p i) = u := by
  have hr : ∀ t, t < n → (List.range n)[t]! = t := fun t ht => by rw [getElem!_pos _ t (by simpa using ht)]; simp
  refine Lib.countP_boundary _ (List.range n) u (by simpa using hu) (fun t ht => ?_) (fun t h3 h4 => ?_)
  · rw [hr t (by omega)]
    have := h t (by omega)
    cases hp : p t with
    | false => rfl
    | true => rw [hp] at this; exact absurd ht (this.1 rfl)
  · have h4' : t < n := by simpa using h4
    rw [hr t h4']
    have := h t h4'
    cases hp : p t with
    | true => rfl
    | false => rw [hp] at this; have := this.2 (by omega); cases this
end Ytjlglfhnnipjaaa
end Go.Proofs
