/-
  Layer 3, as natural numbers: words, rounds, blocks; texts, filled up; digests, digits; the digest of the document's example.
-/
import Derived.Test.YtjdjajjogpmdaaaDoorBase
namespace Go.Proofs.YtjdjajjogpmdaaaDoor
namespace Sha

/-- a word of 32 bits turned right by n -/
def rot (n x : Nat) : Nat := (x / 2 ^ n) ||| (x * 2 ^ (32 - n) % 4294967296)
def s0 (x : Nat) : Nat := rot 7 x ^^^ rot 18 x ^^^ x / 8
def s1 (x : Nat) : Nat := rot 17 x ^^^ rot 19 x ^^^ x / 1024
def S0 (x : Nat) : Nat := rot 2 x ^^^ rot 13 x ^^^ rot 22 x
def S1 (x : Nat) : Nat := rot 6 x ^^^ rot 11 x ^^^ rot 25 x
def ch (e f g : Nat) : Nat := (e &&& f) ^^^ ((4294967295 - e) &&& g)
def mj (a b c : Nat) : Nat := (a &&& b) ^^^ (a &&& c) ^^^ (b &&& c)

def kL : List Nat := [1116352408, 1899447441, 3049323471, 3921009573, 961987163, 1508970993, 2453635748, 2870763221, 3624381080, 310598401, 607225278, 1426881987, 1925078388, 2162078206, 2614888103, 3248222580, 3835390401, 4022224774, 264347078, 604807628, 770255983, 1249150122, 1555081692, 1996064986, 2554220882, 2821834349, 2952996808, 3210313671, 3336571891, 3584528711, 113926993, 338241895, 666307205, 773529912, 1294757372, 1396182291, 1695183700, 1986661051, 2177026350, 2456956037, 2730485921, 2820302411, 3259730800, 3345764771, 3516065817, 3600352804, 4094571909, 275423344, 430227734, 506948616, 659060556, 883997877, 958139571, 1322822218, 1537002063, 1747873779, 1955562222, 2024104815, 2227730452, 2361852424, 2428436474, 2756734187, 3204031479, 3329325298]
def K (t : Nat) : Nat := kL.getD t 0
def iv : List Nat := [1779033703, 3144134277, 1013904242, 2773480762, 1359893119, 2600822924, 528734635, 1541459225]

/-- the next word of a block -/
def nextW (l : List Nat) : Nat := (((l.getD (l.length - 16) 0 + s0 (l.getD (l.length - 15) 0)) % 4294967296 + l.getD (l.length - 7) 0) % 4294967296 + s1 (l.getD (l.length - 2) 0)) % 4294967296
/-- k words more -/
def more : Nat → List Nat → List Nat
  | 0, l => l
  | k + 1, l => more k l ++ [nextW (more k l)]
/-- all 64 words of a block's 16 -/
def sched (l : List Nat) : List Nat := more 48 l

/-- what a round adds: x and y -/
def rx (k w : Nat) (e f g h : Nat) : Nat := (h + k + w + ch e f g + S1 e) % 4294967296
def ry (a b c : Nat) : Nat := (mj a b c + S0 a) % 4294967296
/-- a round -/
def rnd (k w : Nat) : List Nat → List Nat
  | [a, b, c, d, e, f, g, h] => [(rx k w e f g h + ry a b c) % 4294967296, a, b, c, (d + rx k w e f g h) % 4294967296, e, f, g]
  | l => l
/-- the first t rounds -/
def rnds (W : List Nat) : Nat → List Nat → List Nat
  | 0, s => s
  | t + 1, s => rnd (K t) (W.getD t 0) (rnds W t s)
def addL (s v : List Nat) : List Nat := List.zipWith (fun x y => (x + y) % 4294967296) s v
/-- the words behind a block more -/
def comp (H : List Nat) (B : List Nat) : List Nat := addL H (rnds (sched B) 64 H)

/-- r bytes of m from place s on, as a number -/
def part (m : List UInt8) (s : Nat) : Nat → Nat
  | 0 => 0
  | r + 1 => part m s r * 256 + (m.getD (s + r) 0).toNat
/-- the words of block q of m -/
def blk (m : List UInt8) (q : Nat) : List Nat := (List.range 16).map fun i => part m (64 * q + 4 * i) 4
/-- the words behind q blocks of m -/
def hs (m : List UInt8) : Nat → List Nat
  | 0 => iv
  | q + 1 => comp (hs m q) (blk m q)

/-- the length's eight bytes -/
def len8 (n : Nat) : List UInt8 := (List.range 8).map fun i => UInt8.ofNat (n / 2 ^ (8 * (7 - i)))
/-- how many bytes 0 stand behind the byte 80 -/
def zeros (n : Nat) : Nat := (119 - n % 64) % 64
/-- a text, filled up -/
def fill (m : List UInt8) : List UInt8 := m ++ [128] ++ List.replicate (zeros m.length) 0 ++ len8 (8 * m.length)
def bytes4 (x : Nat) : List UInt8 := [UInt8.ofNat (x / 16777216), UInt8.ofNat (x / 65536), UInt8.ofNat (x / 256), UInt8.ofNat (x / 1)]
def out (l : List Nat) : List UInt8 := l.flatMap bytes4
/-- the digest -/
def dig (m : List UInt8) : List UInt8 := out (hs (fill m) ((fill m).length / 64))

def digit (x : Nat) : UInt8 := UInt8.ofNat (if x < 10 then 48 + x else 87 + x)
def hex (m : List UInt8) : List UInt8 := m.flatMap fun b => [digit (b.toNat / 16), digit (b.toNat % 16)]

theorem check : hex (dig [97, 98, 99]) = [98, 97, 55, 56, 49, 54, 98, 102, 56, 102, 48, 49, 99, 102, 101, 97, 52, 49, 52, 49, 52, 48, 100, 101, 53, 100, 97, 101, 50, 50, 50, 51, 98, 48, 48, 51, 54, 49, 97, 51, 57, 54, 49, 55, 55, 97, 57, 99, 98, 52, 49, 48, 102, 102, 54, 49, 102, 50, 48, 48, 49, 53, 97, 100] := by decide +kernel

-- bounds
theorem or_lt {a b : Nat} (h1 : a < 4294967296) (h2 : b < 4294967296) : a ||| b < 4294967296 := Nat.or_lt_two_pow (n := 32) h1 h2
theorem xor_lt {a b : Nat} (h1 : a < 4294967296) (h2 : b < 4294967296) : a ^^^ b < 4294967296 := Nat.xor_lt_two_pow (n := 32) h1 h2
theorem and_lt {a b : Nat} (h1 : a < 4294967296) : a &&& b < 4294967296 := Nat.lt_of_le_of_lt Nat.and_le_left h1
theorem rot_lt (n x : Nat) (hx : x < 4294967296) : rot n x < 4294967296 := or_lt (Nat.lt_of_le_of_lt (Nat.div_le_self _ _) hx) (Nat.mod_lt _ (by omega))
theorem s0_lt (x : Nat) (hx : x < 4294967296) : s0 x < 4294967296 := xor_lt (xor_lt (rot_lt _ _ hx) (rot_lt _ _ hx)) (Nat.lt_of_le_of_lt (Nat.div_le_self _ _) hx)
theorem s1_lt (x : Nat) (hx : x < 4294967296) : s1 x < 4294967296 := xor_lt (xor_lt (rot_lt _ _ hx) (rot_lt _ _ hx)) (Nat.lt_of_le_of_lt (Nat.div_le_self _ _) hx)
theorem S0_lt (x : Nat) (hx : x < 4294967296) : S0 x < 4294967296 := xor_lt (xor_lt (rot_lt _ _ hx) (rot_lt _ _ hx)) (rot_lt _ _ hx)
theorem S1_lt (x : Nat) (hx : x < 4294967296) : S1 x < 4294967296 := xor_lt (xor_lt (rot_lt _ _ hx) (rot_lt _ _ hx)) (rot_lt _ _ hx)
theorem ch_lt (e f g : Nat) (he : e < 4294967296) : ch e f g < 4294967296 := xor_lt (and_lt he) (and_lt (by omega))
theorem mj_lt (a b c : Nat) (ha : a < 4294967296) (hb : b < 4294967296) : mj a b c < 4294967296 := xor_lt (xor_lt (and_lt ha) (and_lt ha)) (and_lt hb)
theorem K_lt (t : Nat) : K t < 4294967296 := by
  have h : ∀ x ∈ kL, x < 4294967296 := by decide
  by_cases ht : t < kL.length
  · have : K t = kL[t] := by unfold K; rw [List.getD_eq_getElem?_getD, List.getElem?_eq_getElem ht]; rfl
    rw [this]; exact h _ (List.getElem_mem _)
  · have : K t = 0 := by unfold K; rw [List.getD_eq_getElem?_getD, List.getElem?_eq_none (by omega)]; rfl
    rw [this]; omega
theorem rnd_len (k w : Nat) (l : List Nat) (h : l.length = 8) : (rnd k w l).length = 8 := by
  match l, h with
  | [a, b, c, d, e, f, g, h], _ => rfl
theorem rnds_len (W : List Nat) (t : Nat) (l : List Nat) (h : l.length = 8) : (rnds W t l).length = 8 := by
  induction t with
  | zero => exact h
  | succ t ih => exact rnd_len _ _ _ ih
def Ws (l : List Nat) : Prop := ∀ x ∈ l, x < 4294967296
theorem rnd_ws (k w : Nat) (l : List Nat) (h : Ws l) : Ws (rnd k w l) := by
  unfold rnd
  split
  · rename_i a b c d e f g h0
    intro x hx
    simp only [List.mem_cons, List.not_mem_nil, or_false] at hx
    rcases hx with rfl | rfl | rfl | rfl | rfl | rfl | rfl | rfl
    · exact Nat.mod_lt _ (by omega)
    · exact h _ (by simp)
    · exact h _ (by simp)
    · exact h _ (by simp)
    · exact Nat.mod_lt _ (by omega)
    · exact h _ (by simp)
    · exact h _ (by simp)
    · exact h _ (by simp)
  · exact h
theorem rnds_ws (W : List Nat) (t : Nat) (l : List Nat) (h : Ws l) : Ws (rnds W t l) := by
  induction t with
  | zero => exact h
  | succ t ih => exact rnd_ws _ _ _ ih
theorem more_len (k : Nat) (l : List Nat) : (more k l).length = l.length + k := by
  induction k with
  | zero => rfl
  | succ k ih => rw [more, List.length_append, ih]; simp; omega
theorem more_ws (k : Nat) (l : List Nat) (h : Ws l) : Ws (more k l) := by
  induction k with
  | zero => exact h
  | succ k ih =>
    intro x hx
    rw [more, List.mem_append] at hx
    rcases hx with hx | hx
    · exact ih x hx
    · rw [List.mem_singleton] at hx
      rw [hx]; exact Nat.mod_lt _ (by omega)
theorem sched_len (l : List Nat) (h : l.length = 16) : (sched l).length = 64 := by unfold sched; rw [more_len, h]
theorem addL_len (s v : List Nat) (h1 : s.length = 8) (h2 : v.length = 8) : (addL s v).length = 8 := by unfold addL; rw [List.length_zipWith]; omega
theorem addL_ws : ∀ s v : List Nat, Ws (addL s v)
  | [], _ => by intro x hx; simp [addL] at hx
  | _ :: _, [] => by intro x hx; simp [addL] at hx
  | a :: s, b :: v => by
    intro x hx
    simp only [addL, List.zipWith_cons_cons, List.mem_cons] at hx
    rcases hx with rfl | hx
    · exact Nat.mod_lt _ (by omega)
    · exact addL_ws s v x hx
theorem iv_ws : Ws iv := by unfold Ws iv; decide
theorem hs_ws (m : List UInt8) (q : Nat) : Ws (hs m q) := by
  cases q with
  | zero => exact iv_ws
  | succ q => exact addL_ws _ _
theorem comp_len (H B : List Nat) (h : H.length = 8) : (comp H B).length = 8 := addL_len _ _ h (rnds_len _ _ _ h)
theorem hs_len (m : List UInt8) (q : Nat) : (hs m q).length = 8 := by
  induction q with
  | zero => rfl
  | succ q ih => exact comp_len _ _ ih
theorem blk_len (m : List UInt8) (q : Nat) : (blk m q).length = 16 := by simp [blk]
theorem part_lt (m : List UInt8) (s r : Nat) : part m s r < 256 ^ r := by
  induction r with
  | zero => simp [part]
  | succ r ih =>
    rw [part, Nat.pow_succ]
    have := (m.getD (s + r) 0).toNat_lt
    omega
theorem part_app (m l : List UInt8) (s r : Nat) (h : s + r ≤ m.length) : part (m ++ l) s r = part m s r := by
  induction r with
  | zero => rfl
  | succ r ih =>
    rw [part, part, ih (by omega)]
    congr 2
    rw [List.getD_eq_getElem?_getD, List.getD_eq_getElem?_getD, List.getElem?_append_left (by omega)]
theorem blk_app (m l : List UInt8) (q : Nat) (h : 64 * q + 64 ≤ m.length) : blk (m ++ l) q = blk m q := by
  unfold blk
  apply List.map_congr_left
  intro i hi
  rw [List.mem_range] at hi
  exact part_app m l _ _ (by omega)
theorem hs_app (m l : List UInt8) (q : Nat) (h : 64 * q ≤ m.length) : hs (m ++ l) q = hs m q := by
  induction q with
  | zero => rfl
  | succ q ih => rw [hs, hs, ih (by omega), blk_app m l q (by omega)]
end Sha
end Go.Proofs.YtjdjajjogpmdaaaDoor
