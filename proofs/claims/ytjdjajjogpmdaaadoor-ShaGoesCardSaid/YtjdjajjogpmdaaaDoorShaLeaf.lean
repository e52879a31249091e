/-
  Layer 3: what the turning of a word and the constants answer.
-/
import Derived.Test.YtjdjajjogpmdaaaDoorProg
import Derived.Test.YtjdjajjogpmdaaaDoorShaMath
import Derived.Deep.WholeRow
namespace Go.Proofs.YtjdjajjogpmdaaaDoor
open Go.RowKit

theorem or_32 (a b : Nat) (h1 : a < 4294967296) (h2 : b < 4294967296) : bits .or .u32 (a : Int) (b : Int) = ((a ||| b : Nat) : Int) := by
  rw [u32_or _ _ (by omega) (by omega) (by omega) (by omega)]
  simp only [Int.toNat_natCast]
theorem and_32 (a b : Nat) (h1 : a < 4294967296) (h2 : b < 4294967296) : bits .and .u32 (a : Int) (b : Int) = ((a &&& b : Nat) : Int) := by
  rw [u32_and _ _ (by omega) (by omega) (by omega) (by omega)]
  simp only [Int.toNat_natCast]
theorem xor_32 (a b : Nat) (h1 : a < 4294967296) (h2 : b < 4294967296) : bits .xor .u32 (a : Int) (b : Int) = ((a ^^^ b : Nat) : Int) := by
  rw [u32_xor _ _ (by omega) (by omega) (by omega) (by omega)]
  simp only [Int.toNat_natCast]
theorem cast_div (x n : Nat) : ((x / 2 ^ n : Nat) : Int) = (x : Int) / 2 ^ n := by rw [Int.natCast_ediv, Int.natCast_pow]; rfl
theorem cast_shl (x n : Nat) : ((x * 2 ^ n % 4294967296 : Nat) : Int) = (x : Int) * 2 ^ n % 4294967296 := by rw [Int.natCast_emod, Int.natCast_mul, Int.natCast_pow]; rfl
theorem rot_int (x n : Nat) (hx : x < 4294967296) : bits .or .u32 ((x : Int) / 2 ^ n) ((x : Int) * 2 ^ (32 - n) % 4294967296) = (Sha.rot n x : Int) := by
  have e := or_32 (x / 2 ^ n) (x * 2 ^ (32 - n) % 4294967296) (Nat.lt_of_le_of_lt (Nat.div_le_self _ _) hx) (Nat.mod_lt _ (by omega))
  rw [cast_div, cast_shl] at e
  exact e
theorem rotl_int (x n : Nat) (hx : x < 4294967296) : bits .or .u32 ((x : Int) * 2 ^ (32 - n) % 4294967296) ((x : Int) / 2 ^ n) = (Sha.rot n x : Int) := by
  have e := or_32 (x * 2 ^ (32 - n) % 4294967296) (x / 2 ^ n) (Nat.mod_lt _ (by omega)) (Nat.lt_of_le_of_lt (Nat.div_le_self _ _) hx)
  rw [cast_div, cast_shl] at e
  rw [e, Nat.or_comm]; rfl

set_option maxRecDepth 100000 in
set_option maxHeartbeats 800000 in
theorem turn_any (x n : Nat) (w : World) (hx : x < 4294967296) (hn : n < 32) :
    Calls Tryd.prog 26 #[.int .u32 (x : Int), .int .i64 (n : Int)] w fun e w' => e = .returned (.int .u32 (Sha.rot n x : Int)) ∧ ∃ n, w' = w.drewN n := by
  have HE := Lib.hid (rot_int x n hx)
  have hn0 : (0 : Int) ≤ (n : Int) := by omega
  have hn1 : (0 : Int) ≤ 32 - (n : Int) := by omega
  go_enter Tryd.func26, Tryd.ntmps26
  go_wp2
  go_quiet (fail)
  go_wp2
  go_ret
  exact ⟨by rw [← HE.out]; rfl, _, rfl⟩

set_option maxRecDepth 100000 in
set_option maxHeartbeats 800000 in
theorem rotl_any (x s : Nat) (m : Int) (w : World) (hx : x < 4294967296) (hs : bits .and .u64 (IntKind.u64.wrap m) 31 = (s : Int)) (hs0 : s ≤ 32) :
    Calls Tryd.prog 28 #[.int .u32 (x : Int), .int .i64 m] w fun e w' => e = .returned (.int .u32 (Sha.rot (32 - s) x : Int)) ∧ w = w' := by
  have he := rotl_int x (32 - s) hx
  rw [show 32 - (32 - s) = s by omega] at he
  have HE := Lib.hid he
  have hn1 : (0 : Int) ≤ 32 - (s : Int) := by omega
  clear he
  go_enter Tryd.func28, Tryd.ntmps28
  go_wp2
  go_ret
  exact ⟨by rw [← HE.out]; rfl, rfl⟩
/-- RotateLeft32 by -n -/
theorem rotr (n : Nat) (x : Nat) (w : World) (m : Int) (hm : bits .and .u64 (IntKind.u64.wrap m) 31 = ((32 - n : Nat) : Int)) (hn : n ≤ 32) (hx : x < 4294967296) :
    Calls Tryd.prog 28 #[.int .u32 (x : Int), .int .i64 m] w fun e w' => e = .returned (.int .u32 (Sha.rot n x : Int)) ∧ w = w' := by
  have h := rotl_any x (32 - n) m w hx hm (by omega)
  rw [show 32 - (32 - n) = n by omega] at h
  exact h
theorem rotr7 (x : Nat) (w : World) (hx : x < 4294967296) : Calls Tryd.prog 28 #[.int .u32 (x : Int), .int .i64 (-7)] w fun e w' => e = .returned (.int .u32 (Sha.rot 7 x : Int)) ∧ w = w' := rotr 7 x w (-7) (by decide) (by omega) hx
theorem rotr18 (x : Nat) (w : World) (hx : x < 4294967296) : Calls Tryd.prog 28 #[.int .u32 (x : Int), .int .i64 (-18)] w fun e w' => e = .returned (.int .u32 (Sha.rot 18 x : Int)) ∧ w = w' := rotr 18 x w (-18) (by decide) (by omega) hx
theorem rotr17 (x : Nat) (w : World) (hx : x < 4294967296) : Calls Tryd.prog 28 #[.int .u32 (x : Int), .int .i64 (-17)] w fun e w' => e = .returned (.int .u32 (Sha.rot 17 x : Int)) ∧ w = w' := rotr 17 x w (-17) (by decide) (by omega) hx
theorem rotr19 (x : Nat) (w : World) (hx : x < 4294967296) : Calls Tryd.prog 28 #[.int .u32 (x : Int), .int .i64 (-19)] w fun e w' => e = .returned (.int .u32 (Sha.rot 19 x : Int)) ∧ w = w' := rotr 19 x w (-19) (by decide) (by omega) hx
theorem rotr6 (x : Nat) (w : World) (hx : x < 4294967296) : Calls Tryd.prog 28 #[.int .u32 (x : Int), .int .i64 (-6)] w fun e w' => e = .returned (.int .u32 (Sha.rot 6 x : Int)) ∧ w = w' := rotr 6 x w (-6) (by decide) (by omega) hx
theorem rotr11 (x : Nat) (w : World) (hx : x < 4294967296) : Calls Tryd.prog 28 #[.int .u32 (x : Int), .int .i64 (-11)] w fun e w' => e = .returned (.int .u32 (Sha.rot 11 x : Int)) ∧ w = w' := rotr 11 x w (-11) (by decide) (by omega) hx
theorem rotr25 (x : Nat) (w : World) (hx : x < 4294967296) : Calls Tryd.prog 28 #[.int .u32 (x : Int), .int .i64 (-25)] w fun e w' => e = .returned (.int .u32 (Sha.rot 25 x : Int)) ∧ w = w' := rotr 25 x w (-25) (by decide) (by omega) hx
theorem rotr2 (x : Nat) (w : World) (hx : x < 4294967296) : Calls Tryd.prog 28 #[.int .u32 (x : Int), .int .i64 (-2)] w fun e w' => e = .returned (.int .u32 (Sha.rot 2 x : Int)) ∧ w = w' := rotr 2 x w (-2) (by decide) (by omega) hx
theorem rotr13 (x : Nat) (w : World) (hx : x < 4294967296) : Calls Tryd.prog 28 #[.int .u32 (x : Int), .int .i64 (-13)] w fun e w' => e = .returned (.int .u32 (Sha.rot 13 x : Int)) ∧ w = w' := rotr 13 x w (-13) (by decide) (by omega) hx
theorem rotr22 (x : Nat) (w : World) (hx : x < 4294967296) : Calls Tryd.prog 28 #[.int .u32 (x : Int), .int .i64 (-22)] w fun e w' => e = .returned (.int .u32 (Sha.rot 22 x : Int)) ∧ w = w' := rotr 22 x w (-22) (by decide) (by omega) hx

theorem run_index_arr {P : Program} (w : World) (t e : TypeId) (n : Nat) (cs : Array Value) (k : IntKind) (i : Nat) (v : Value) (hu : P.underlying t = some (.array n e)) (he : P.underlying e = some (.int .u32)) (hs : (P.info? e).map (·.size) = some 1) (hi : i < n) (hv : cs[i]? = some v) :
    (Instr.index t (.agg cs) (.int k (i : Int))).run P w = .ok v w := by
  obtain ⟨i0, hi0, hz⟩ := Option.map_eq_some_iff.1 hs
  have hi3 : 0 ≤ (i : Int) := by omega
  simp [Instr.index, run_underlying hu, asIntOf, hi3, go_sem, sizeOf, typeInfo, hi0, hz, part, isAgg, run_underlying he, hv]
  intro h; omega

theorem begun_zero (w : World) : (zeroValue 41).run Tryd.prog w = .ok (.agg (List.toArray ((List.replicate 72 (Value.int .u32 0)) ++ [Value.int .u64 0]))) w :=
  (zero_of_info (P := Tryd.prog) (t := 41) (v := .agg (List.toArray ((List.replicate 72 (Value.int .u32 0)) ++ [Value.int .u64 0]))) (n := 73) (by kernel_rfl)).1 w
theorem size_u32 : (Tryd.prog.info? 35).map (·.size) = some 1 := by kernel_rfl
theorem kL_len : Sha.kL.length = 64 := rfl
/-- words as cells -/
def vals (l : List Nat) : List Value := l.map fun x : Nat => Value.int .u32 (x : Int)
theorem vals_len (l : List Nat) : (vals l).length = l.length := by simp [vals]
theorem vals_at (l : List Nat) (i : Nat) (h : i < l.length) : (vals l)[i]? = some (.int .u32 (l.getD i 0 : Int)) := by
  simp [vals, List.getElem?_eq_getElem h, List.getD]
def kV : Array Value := #[.int .u32 1116352408, .int .u32 1899447441, .int .u32 3049323471, .int .u32 3921009573, .int .u32 961987163, .int .u32 1508970993, .int .u32 2453635748, .int .u32 2870763221, .int .u32 3624381080, .int .u32 310598401, .int .u32 607225278, .int .u32 1426881987, .int .u32 1925078388, .int .u32 2162078206, .int .u32 2614888103, .int .u32 3248222580, .int .u32 3835390401, .int .u32 4022224774, .int .u32 264347078, .int .u32 604807628, .int .u32 770255983, .int .u32 1249150122, .int .u32 1555081692, .int .u32 1996064986, .int .u32 2554220882, .int .u32 2821834349, .int .u32 2952996808, .int .u32 3210313671, .int .u32 3336571891, .int .u32 3584528711, .int .u32 113926993, .int .u32 338241895, .int .u32 666307205, .int .u32 773529912, .int .u32 1294757372, .int .u32 1396182291, .int .u32 1695183700, .int .u32 1986661051, .int .u32 2177026350, .int .u32 2456956037, .int .u32 2730485921, .int .u32 2820302411, .int .u32 3259730800, .int .u32 3345764771, .int .u32 3516065817, .int .u32 3600352804, .int .u32 4094571909, .int .u32 275423344, .int .u32 430227734, .int .u32 506948616, .int .u32 659060556, .int .u32 883997877, .int .u32 958139571, .int .u32 1322822218, .int .u32 1537002063, .int .u32 1747873779, .int .u32 1955562222, .int .u32 2024104815, .int .u32 2227730452, .int .u32 2361852424, .int .u32 2428436474, .int .u32 2756734187, .int .u32 3204031479, .int .u32 3329325298]
theorem kV_eq : kV = (vals Sha.kL).toArray := by kernel_rfl
theorem kV_at (t : Nat) (h : t < 64) : kV[t]? = some (.int .u32 (Sha.K t : Int)) := by
  rw [kV_eq, List.getElem?_toArray]; exact vals_at _ _ (by rw [kL_len]; exact h)

set_option maxRecDepth 100000 in
set_option maxHeartbeats 800000 in
theorem k_any (t : Nat) (w : World) (ht : t < 64) :
    Calls Tryd.prog 27 #[.int .i64 (t : Int)] w fun e w' => e = .returned (.int .u32 (Sha.K t : Int)) ∧ w = w' := by
  have hx := run_index_arr (P := Tryd.prog) w 37 35 64 kV .i64 t _ Tryd.underlying37 Tryd.underlying35 size_u32 ht (kV_at t ht)
  unfold kV at hx
  generalize (Sha.K t : Int) = N at hx ⊢
  go_enter Tryd.func27, Tryd.ntmps27
  go_wp2
  go_ret
  exact ⟨rfl, rfl⟩
end Go.Proofs.YtjdjajjogpmdaaaDoor
