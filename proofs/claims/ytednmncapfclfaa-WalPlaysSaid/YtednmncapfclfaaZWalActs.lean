/-
  Layer 7's laws: WalPlays: its calls as they are read; a step whatever its kind; few.
-/
import Derived.Test.YtednmncapfclfaaZWalStep
namespace Go.Proofs.Ytednmncapfclfaa
open Go.RowKit
abbrev Acts7 := WAct × (Option Addr × Nat) × (Option Addr × Nat)
def noAct7 : Acts7 := (⟨0, 0, 0, [], ⟨#[]⟩, []⟩, (none, 0), (none, 0))
/-- the slice at a reads as the calls L -/
def ReadsW (w : World) (a : Option Addr) (L : List Acts7) : Prop := ∀ i (h : i < L.length), ∃ b off, a = some ⟨b, off, none⟩ ∧
  (∀ j v, (act7C L[i].1 L[i].2.1.1 L[i].2.1.2 L[i].2.2.1 L[i].2.2.2).toList[j]? = some v → w.cell? ⟨b, off + i * 6 + j, none⟩ = some v) ∧ (-9223372036854775808 ≤ L[i].1.n ∧ L[i].1.n ≤ 9223372036854775807) ∧ ReadsS w L[i].2.1.1 L[i].1.L ∧ ReadsI w L[i].2.2.1 L[i].1.F
theorem readsW_none (w : World) (a : Option Addr) : ReadsW w a [] := by intro i hi; simp at hi
theorem act7_at {w0 w : World} {a : Option Addr} {L : List Acts7} (h : ReadsW w0 a L) (hb : Below w0.heap.size w0 w) (k : Nat) (hk : k < L.length) :
    ∃ b off kind an am lst raw F xa xc fa fc, L[k] = (⟨kind, an, am, lst, raw, F⟩, (xa, xc), (fa, fc)) ∧ a = some ⟨b, off, none⟩ ∧ w.cell? ⟨b, off + k * 6, none⟩ = some (.int .i64 kind) ∧ w.cell? ⟨b, off + k * 6 + 1, none⟩ = some (.int .i64 an) ∧ w.cell? ⟨b, off + k * 6 + 2, none⟩ = some (.int .i64 am) ∧ w.cell? ⟨b, off + k * 6 + 3, none⟩ = some (.slice xa lst.length xc) ∧ w.cell? ⟨b, off + k * 6 + 4, none⟩ = some (.string raw) ∧ w.cell? ⟨b, off + k * 6 + 5, none⟩ = some (.slice fa F.length fc) ∧
      (-9223372036854775808 ≤ an ∧ an ≤ 9223372036854775807) ∧ ReadsS w xa lst ∧ (∀ x, xa = some x → lst ≠ [] → x.block < w0.heap.size) ∧ ReadsI w fa F ∧ ∀ x, fa = some x → F ≠ [] → x.block < w0.heap.size := by
  obtain ⟨b, off, h1, h2, h3, h4, h5⟩ := h k hk
  generalize L[k] = y at *
  obtain ⟨⟨kind, an, am, lst, raw, F⟩, ⟨xa, xc⟩, ⟨fa, fc⟩⟩ := y
  have hlt : b < w0.heap.size := World.block_lt_of_cell? w0 _ (h2 0 _ rfl)
  have hc : ∀ j v, (act7C ⟨kind, an, am, lst, raw, F⟩ xa xc fa fc).toList[j]? = some v → w.cell? ⟨b, off + k * 6 + j, none⟩ = some v := fun j v hv => (hb.cell (p := ⟨b, off + k * 6 + j, none⟩) hlt).trans (h2 j v hv)
  exact ⟨b, off, kind, an, am, lst, raw, F, xa, xc, fa, fc, rfl, h1, hc 0 _ rfl, hc 1 _ rfl, hc 2 _ rfl, hc 3 _ rfl, hc 4 _ rfl, hc 5 _ rfl, h3, readsS_below h4 hb, readsS_lt h4, readsI_below h5 hb, readsI_lt h5⟩
section
variable {w : World} {Y : Nat → Prop} {wp p q m k : Nat} {fr n : Int} {d : Dk.D} {g : Wl.Lg}
/-- a step, whatever its kind -/
theorem wstep_any (h : Wopt w Y wp p q fr n d (some g)) (hY : Y wp) (hbd : Bnd m k d (some g)) (hk : k ≤ 25) (hn : n ≤ 9223372036854775807) (kind an am : Int) (lst : List ByteArray) (raw : ByteArray) (F : List Int) (xa fa : Option Addr) (xc fc : Nat)
    (hi : -9223372036854775808 ≤ an ∧ an ≤ 9223372036854775807) (hl : lst.length ≤ 20) (hrS : ReadsS w xa lst) (hxa : ∀ a, xa = some a → lst ≠ [] → Y a.block) (hrI : ReadsI w fa F) (hfa : ∀ a, fa = some a → F ≠ [] → Y a.block ∧ a.block ≠ wp) :
    Calls Try.prog 12 #[.pointer (some ⟨wp, 0, none⟩), .agg (act7C ⟨kind, an, am, lst, raw, F⟩ xa xc fa fc)] w (StepP Y wp p q fr n m k w) := by
  by_cases h0 : 3 ≤ kind ∧ kind ≤ 9
  · rcases (show kind = 3 ∨ kind = 4 ∨ kind = 5 ∨ kind = 6 ∨ kind = 7 ∨ kind = 8 ∨ kind = 9 by omega) with h3 | h4 | h5 | h6 | h7 | h8 | h9
    · by_cases hlo : an < -100
      · exact wstep_3a h hY hbd hk hn kind an am lst raw F xa fa xc fc h3 (.inl hlo)
      · by_cases hhi : 100 < an
        · exact wstep_3a h hY hbd hk hn kind an am lst raw F xa fa xc fc h3 (.inr hhi)
        · exact wstep_3b h hY hbd hk hn kind an am lst raw F xa fa xc fc h3 hlo hhi
    · exact wstep_4 h hY hbd hk hn kind an am lst raw F xa fa xc fc h4
    · exact wstep_5 h hY hbd hk hn kind an am lst raw F xa fa xc fc h5
    · exact wstep_6 h hY hbd hk hn kind an am lst raw F xa fa xc fc h6 hi
    · exact wstep_7 h hY hbd hk hn kind an am lst raw F xa fa xc fc h7 hrI hfa
    · exact wstep_8 h hY hbd hk hn kind an am lst raw F xa fa xc fc h8
    · by_cases hE : Dk.writeE d an raw = 0
      · exact wstep_9b h hY hbd hk hn kind an am lst raw F xa fa xc fc h9 hE
      · exact wstep_9a h hY hbd hk hn kind an am lst raw F xa fa xc fc h9 hE
  · exact wstep_0 h hY hbd hk hn kind an am lst raw F xa fa xc fc h0 hl hrS hxa
end
/-! ### few -/
def FewP (L : List Acts7) (w : World) (e : Ending) (w' : World) : Prop := ∃ b : Bool, e = .returned (.bool b) ∧ (b = true → L.length ≤ 25 ∧ ∀ i (h : i < L.length), L[i].1.L.length ≤ 20) ∧ w' = w
set_option maxRecDepth 100000 in
set_option maxHeartbeats 4000000 in
theorem few7_any (L : List Acts7) (la : Option Addr) (lc : Nat) (w : World) (hL : ReadsW w la L) (hm : L.length ≤ maxLen) :
    Calls Try.prog 7 #[.slice la L.length lc] w (FewP L w) := by
  unfold maxLen at hm
  by_cases h25 : 25 < L.length
  · have t0 : (25 : Int) < (L.length : Int) := by omega
    clear hL
    go_enter Try.func7, Try.ntmps7
    go_wp2_with fail
    go_ret
    exact ⟨false, rfl, (fun h => by cases h), rfl⟩
  · have t0 : decide ((25 : Int) < (L.length : Int)) = false := decide_eq_false (by omega)
    have H := Lib.hid (And.intro hL h25)
    have hm25 : L.length ≤ 25 := by omega
    clear hL hm h25
    go_enter Try.func7, Try.ntmps7
    go_wp2_with fail
    go_loop [3] (fun i => ∃ k : Nat, k ≤ L.length ∧ i = .int .i64 (k : Int) ∧ Hid (∀ i (h : i < L.length), i < k → L[i].1.L.length ≤ 20)) (fun i => L.length - (intOf i).toNat)
    case atStart => exact ⟨0, Nat.zero_le _, rfl, Lib.hid fun i _ h => by omega⟩
    case round =>
      obtain ⟨k, hk, rfl, HK⟩ := hrel
      by_cases hlt : k < L.length
      · obtain ⟨b, off, kind, an, am, lst, raw, F, xa, xc, fa, fc, hx, rfl, c0, c1, c2, c3, c4, c5, hi, hS, hSl, hI, hIl⟩ := act7_at H.out.1 (Below.refl _ _) k hlt
        have HS := Lib.hid hS
        have HX := Lib.hid hx
        clear c0 c1 c2 c5 hi hS hSl hI hIl hx
        by_cases h20 : 20 < lst.length
        · have t1 : (20 : Int) < (lst.length : Int) := by omega
          go_wp2_with fail
          go_ret
          exact ⟨false, rfl, (fun h => by cases h), rfl⟩
        · have t1 : ¬ (20 : Int) < (lst.length : Int) := by omega
          have H20 := Lib.hid h20
          clear h20
          by_cases h1000 : 1000 < raw.size
          · have t2 : (1000 : Int) < (raw.size : Int) := by omega
            go_wp2_with fail
            go_ret
            exact ⟨false, rfl, (fun h => by cases h), rfl⟩
          · have t2 : ¬ (1000 : Int) < (raw.size : Int) := by omega
            clear h1000
            go_wp2_with fail
            go_loop [4] (fun i => ∃ j : Nat, j ≤ lst.length ∧ i = .int .i64 (j : Int)) (fun i => lst.length - (intOf i).toNat)
            case atStart => exact ⟨0, Nat.zero_le _, rfl⟩
            case round =>
              obtain ⟨j, hj, rfl⟩ := hrel
              by_cases hjl : j < lst.length
              · obtain ⟨b2, off2, rfl, hc⟩ := HS.out j hjl
                generalize lst[j] = s at *
                by_cases hs : 1000 < s.size
                · have t3 : (1000 : Int) < (s.size : Int) := by omega
                  go_wp2_with fail
                  go_ret
                  exact ⟨false, rfl, (fun h => by cases h), rfl⟩
                · have t3 : ¬ (1000 : Int) < (s.size : Int) := by omega
                  clear hs
                  go_wp2_with fail
                  go_round
                  case rel => exact ⟨j + 1, by omega, by go_num⟩
                  case measure => simp [intOf]; omega
              · obtain rfl : j = lst.length := by omega
                go_wp2_with fail
                go_round
                case rel =>
                  refine ⟨k + 1, by omega, by go_num, Lib.hid fun i h hik => ?_⟩
                  rcases Nat.lt_or_ge i k with h' | h'
                  · exact HK.out i h h'
                  · obtain rfl : i = k := by omega
                    rw [HX.out]
                    have := H20.out
                    show lst.length ≤ 20
                    omega
                case measure => simp [intOf]; omega
      · obtain rfl : k = L.length := by omega
        go_wp2_with fail
        go_ret
        exact ⟨true, rfl, fun _ => ⟨by have := H.out.2; omega, fun i h => HK.out i h h⟩, rfl⟩
end Go.Proofs.Ytednmncapfclfaa
