/-
  Layer 14, the program's: what a right expression is written as.
-/
import Derived.Test.YtmkllibfblacfaaDoorPk4
namespace Go.Proofs.YtmkllibfblacfaaDoor
open Go.RowKit
open Sx (X)
namespace Sx
theorem op_right {x : X} (h : right x = true) : 1 ≤ x.op ∧ x.op ≤ 16 := by
  cases form_of h with
  | val v h hn => exact ⟨by show (1 : Int) ≤ 1; omega, by show (1 : Int) ≤ 16; omega⟩
  | name s h => exact ⟨by show (1 : Int) ≤ 2; omega, by show (2 : Int) ≤ 16; omega⟩
  | neg a h => exact ⟨by show (1 : Int) ≤ 3; omega, by show (3 : Int) ≤ 16; omega⟩
  | bin op a b h4 h15 ha hb => exact ⟨by show (1 : Int) ≤ op; omega, by show op ≤ 16; omega⟩
  | cond a b c ha hb hc => exact ⟨by show (1 : Int) ≤ 16; omega, by show (16 : Int) ≤ 16; omega⟩
theorem cond_cat (A B C : ByteArray) : ⟨#[105, 102, 32]⟩ ++ A ++ ⟨#[32, 116, 104, 101, 110, 32]⟩ ++ B ++ ⟨#[32, 101, 108, 115, 101, 32]⟩ ++ C = ⟨#[105, 102, 32]⟩ ++ A ++ ⟨#[32]⟩ ++ ⟨#[116, 104, 101, 110]⟩ ++ ⟨#[32]⟩ ++ B ++ ⟨#[32]⟩ ++ ⟨#[101, 108, 115, 101]⟩ ++ ⟨#[32]⟩ ++ C := by
  have e1 : (⟨#[32, 116, 104, 101, 110, 32]⟩ : ByteArray) = ⟨#[32]⟩ ++ ⟨#[116, 104, 101, 110]⟩ ++ ⟨#[32]⟩ := by rfl
  have e2 : (⟨#[32, 101, 108, 115, 101, 32]⟩ : ByteArray) = ⟨#[32]⟩ ++ ⟨#[101, 108, 115, 101]⟩ ++ ⟨#[32]⟩ := by rfl
  rw [e1, e2]
  simp only [ByteArray.append_assoc]
end Sx
end Go.Proofs.YtmkllibfblacfaaDoor
