/- What disk.Load does. Condition: the bytes lie within the reach. -/
import Derived.Test.YtnecigbncggogaaDkImage
namespace Go.Proofs.Ytnecigbncggogaa
open Go.RowKit
set_option linter.unusedVariables false
set_option maxRecDepth 20000

/-- A page of an image. -/
def slot (l : List UInt8) (k : Nat) : List UInt8 := (l.drop (k * 512)).take 512
theorem slot_len {l : List UInt8} {k : Nat} (h : (k + 1) * 512 ≤ l.length) : (slot l k).length = 512 := by unfold slot; rw [List.length_take, List.length_drop]; omega
/-- The disk behind k pages. -/
def loadTo (l : List UInt8) (P : Nat) : Nat → Dk
  | 0 => Dk.fresh P
  | k + 1 => (loadTo l P k).lasts (k : Int) (slot l k)
theorem loadTo_rest (l : List UInt8) (P : Nat) : ∀ k, (loadTo l P k).pages = P ∧ (loadTo l P k).pend = [] ∧ (loadTo l P k).arm = -1 ∧ (loadTo l P k).down = false
  | 0 => ⟨rfl, rfl, rfl, rfl⟩
  | k + 1 => loadTo_rest l P k
theorem loadTo_last {l : List UInt8} {P : Nat} (k : Nat) : k * 512 ≤ l.length → ∀ n : Nat, (loadTo l P k).last (n : Int) = if n < k then slot l n else zero512 := by
  induction k with
  | zero => intro _ n; rw [if_neg (by omega)]; rfl
  | succ k ih =>
    intro hk n
    have e : (loadTo l P (k + 1)).last (n : Int) = if (n : Int) = (k : Int) then over (slot l k) ((loadTo l P k).last (k : Int)) else (loadTo l P k).last (n : Int) := rfl
    rw [e]
    by_cases h : n = k
    · subst h
      have hs := slot_len hk
      have hk' : n * 512 ≤ l.length := Nat.le_trans (Nat.mul_le_mul_right 512 (Nat.le_succ n)) hk
      have e2 := ih hk' n
      rw [if_neg (Nat.lt_irrefl n)] at e2
      rw [if_pos rfl, if_pos (Nat.lt_succ_self n), e2, over_all (hs.trans zero512_len.symm)]
    · have hk' : k * 512 ≤ l.length := Nat.le_trans (Nat.mul_le_mul_right 512 (Nat.le_succ k)) hk
      rw [if_neg (by omega), ih hk' n]
      by_cases h2 : n < k
      · rw [if_pos h2, if_pos (by omega)]
      · rw [if_neg h2, if_neg (by omega)]
/-- A disk of an image. -/
def loaded (l : List UInt8) : Dk := loadTo l (l.length / 512) (l.length / 512)
theorem loaded_has {l : List UInt8} {n : Nat} (h : n < l.length / 512) : (loaded l).has (n : Int) = slot l n := by
  unfold Dk.has
  rw [show (loaded l).pend = [] from (loadTo_rest l _ _).2.1]
  show (loaded l).last (n : Int) = _
  unfold loaded
  rw [loadTo_last _ (by omega), if_pos h]
theorem loaded_free (l : List UInt8) : (loaded l).free := ⟨(loadTo_rest l _ _).2.2.2, (loadTo_rest l _ _).2.2.1⟩
theorem imgTo_loaded {l : List UInt8} : ∀ k, k ≤ l.length / 512 → imgTo (loaded l) k = l.take (k * 512)
  | 0, _ => by simp [imgTo]
  | k + 1, h => by
    show imgTo (loaded l) k ++ (loaded l).has (k : Int) = _
    rw [imgTo_loaded k (by omega), loaded_has (by omega)]
    unfold slot
    rw [show (k + 1) * 512 = k * 512 + 512 by omega, List.take_add]
theorem loaded_img {l : List UInt8} (h : l.length % 512 = 0) : (loaded l).img = l := by
  unfold Dk.img
  rw [show (loaded l).pages = l.length / 512 from (loadTo_rest l _ _).1, imgTo_loaded _ (Nat.le_refl _), List.take_of_length_le (by omega)]
theorem slot_byts {w : World} {g off : Nat} {l : List UInt8} (h : Byts w (some ⟨g, off, none⟩) l) (k : Nat) : Byts w (some ⟨g, off + k * 512, none⟩) (slot l k) := by
  rcases h with rfl | ⟨g', off', e, hc⟩
  · left; simp [slot]
  · simp only [Option.some.injEq, Addr.mk.injEq, and_true] at e
    obtain ⟨rfl, rfl⟩ := e
    refine Or.inr ⟨g, off + k * 512, rfl, fun i hi => ?_⟩
    have hi' : k * 512 + i < l.length := by unfold slot at hi; rw [List.length_take, List.length_drop] at hi; omega
    have e : (slot l k)[i] = l[k * 512 + i] := by simp [slot]
    rw [e, Nat.add_assoc]
    exact hc _ hi'
set_option maxHeartbeats 1000000 in
theorem load_bad (l : List UInt8) (p : Option Addr) (c : Nat) (w : World) (hl : l.length ≤ 140737488351232) (hb : l.length % 512 ≠ 0 ∨ l.length / 512 < 1 ∨ 4096 < l.length / 512) :
    Calls Try.prog 33 #[.slice p l.length c] w fun e w' => e = .returned (.tuple #[.pointer none, .int .i64 2]) ∧ w' = w := by
  generalize l.length = m at *
  have hrm : Int.tmod (m : Int) 512 = ((m % 512 : Nat) : Int) := rfl
  have hdv : Int.tdiv (m : Int) 512 = ((m / 512 : Nat) : Int) := rfl
  by_cases h1 : m % 512 ≠ 0
  · have hbb : (((m % 512 : Nat) : Int) == 0) = false := by simp; omega
    clear hb
    generalize ((m % 512 : Nat) : Int) = r at *
    go_enter Try.func33, Try.ntmps33
    go_wp2
    go_ret2
    exact ⟨rfl, rfl⟩
  · have h0 : m % 512 = 0 := by omega
    have hbb : (((m % 512 : Nat) : Int) == 0) = true := by simp [h0]
    have N := new_bad ((m / 512 : Nat) : Int) w (by omega)
    have HN := hid N
    clear N hb h1 h0
    have hq1 : (0 : Int) ≤ ((m / 512 : Nat) : Int) := by omega
    have hq2 : ((m / 512 : Nat) : Int) ≤ 140737488351232 := by omega
    generalize ((m % 512 : Nat) : Int) = r at *
    generalize ((m / 512 : Nat) : Int) = q at *
    go_enter Try.func33, Try.ntmps33
    go_wp2_with (first
      | (go_at_call 11; go_loud ((with_reducible refine HN.out.mono ?_); rintro e w2 ⟨rfl, hw⟩; subst hw))
      | fail)
    go_ret2
    exact ⟨rfl, rfl⟩
set_option maxHeartbeats 1000000 in
theorem load_ok (l : List UInt8) (p : Option Addr) (c : Nat) (w : World) (h0 : l.length % 512 = 0) (h1 : 1 ≤ l.length / 512) (h2 : l.length / 512 ≤ 4096) (hc : l.length ≤ c) (hB : Byts w p l) :
    Calls Try.prog 33 #[.slice p l.length c] w fun e w' => e = .returned (.tuple #[.pointer (some ⟨w.heap.size + 2, 0, none⟩), .int .i64 0]) ∧ PD w' (w.heap.size + 2) (fun k => w.heap.size ≤ k ∧ k < w'.heap.size) (loaded l) ∧ Below w.heap.size w w' := by
  obtain ⟨g, off, rfl, hcell⟩ : ∃ g off, p = some ⟨g, off, none⟩ ∧ ∀ i (h : i < l.length), w.cell? ⟨g, off + i, none⟩ = some (.int .u8 (l[i].toNat : Int)) := by
    rcases hB with rfl | h
    · simp at h1
    · exact h
  have HBy : Hid (Byts w (some ⟨g, off, none⟩) l) := hB
  have N := new_ok ((l.length / 512 : Nat) : Int) w (by omega) (by omega)
  rw [Int.toNat_natCast] at N
  have HN := hid N
  have hrm : Int.tmod (l.length : Int) 512 = 0 := by
    have : Int.tmod (l.length : Int) 512 = ((l.length % 512 : Nat) : Int) := rfl
    rw [this, h0]; rfl
  have hdv : Int.tdiv (l.length : Int) 512 = ((l.length / 512 : Nat) : Int) := rfl
  have hfr : (Dk.fresh (l.length / 512)).pages = l.length / 512 := rfl
  obtain ⟨P, hP⟩ : ∃ P, P = l.length / 512 := ⟨_, rfl⟩
  have hLL : l.length = P * 512 := by omega
  rw [← hP] at HN hdv h1 h2 hfr
  have HLD : Hid (loaded l = loadTo l P P) := by show _ = _; unfold loaded; rw [hP]
  have HLL := hid hLL
  clear N hB hcell hP h0
  generalize hlm : l.length = m at *
  have HLm := hid hlm
  clear hLL hlm
  have hpb : (P : Int) ≤ 4096 := by omega
  go_enter Try.func33, Try.ntmps33
  go_wp2_with (first
    | (go_at_call 11; go_loud ((with_reducible refine HN.out.mono ?_); rintro e w2 ⟨rfl, P2, S2, B2⟩; obtain ⟨c0, c1, c2, c3, c4, c5, fz⟩ := P2.cells; rw [hfr] at c0; have HP2 := hid P2; have HS2 := hid S2; have HB2 := hid B2; clear P2 S2 B2 c1 c2 c3 c4 c5 fz HN))
    | fail)
  go_loopw [25] (fun i wr => ∃ k : Nat, i = .int .i64 (k : Int) ∧ k ≤ P ∧ PDisk wr (w.heap.size + 2) w.heap.size (w.heap.size + 1) (.slice none 0 0) (loadTo l P k) ∧ Below w.heap.size w wr ∧ w.heap.size + 3 ≤ wr.heap.size) (fun i _ => P - (RowKit.intOf i).toNat)
  case atStart => exact ⟨0, rfl, Nat.zero_le _, HP2.out, HB2.out, Nat.le_of_eq HS2.out.symm⟩
  case round =>
    clear HP2 HS2 HB2 c0
    obtain ⟨k, rfl, hk, hP, hB, hS⟩ := hrel
    have HP := hid hP
    have HB := hid hB
    have HS := hid hS
    by_cases hx : k < P
    · have hmm : (k + 1) * 512 ≤ m := by have := HLL.out; have := Nat.mul_le_mul_right 512 (show k + 1 ≤ P from hx); omega
      have HBs := hid (slot_byts (HBy.out.below hB) k)
      have q1 : (0 : Int) ≤ (k : Int) * 512 := by omega
      have q2 : (k : Int) * 512 ≤ ((k : Int) + 1) * 512 := by omega
      have q3 : ((k : Int) + 1) * 512 ≤ (c : Int) := by omega
      have hkb : (k : Int) < 4096 := by omega
      clear hP hB hS
      have hsl : (slot l k).length = 512 := slot_len (by rw [HLm.out]; exact hmm)
      have HL0 := last_any (w.heap.size + 2) w.heap.size (w.heap.size + 1) _ (loadTo l P k) (k : Int) _ (slot l k) (c - k * 512) wr HP.out (by omega) HBs.out
      rw [show (slot l k).length = (k + 1) * 512 - k * 512 by rw [hsl]; omega] at HL0
      have HLa := hid HL0
      have HN : Hid ((loadTo l P k).lasts (k : Int) (slot l k) = loadTo l P (k + 1)) := rfl
      clear HL0 hsl
      go_wp2_with (first
        | (go_at_call 66; go_loud ((with_reducible refine HLa.out.mono ?_); rintro e w4 ⟨rfl, P4, C4⟩; have HP4 := hid P4; have HC4 := hid C4; clear P4 C4))
        | fail)
      go_roundw
      case rel =>
        have C := HC4.out (· = w.heap.size) rfl
        exact ⟨k + 1, by go_num, by omega, HP4.out, HB.out.trans (C.below (fun j e => by rw [e]; exact Nat.le_refl _) (by have := HS.out; omega)), Nat.le_trans HS.out C.size⟩
      case measure => simp [RowKit.intOf]; omega
    · obtain rfl : k = P := by omega
      clear hP hB hS
      go_wp2
      go_ret2
      refine ⟨rfl, ⟨_, _, _, by rw [HLD.out]; exact HP.out, fun j hj => ?_⟩, HB.out⟩
      have := HS.out
      rcases hj with rfl | rfl | rfl | hj
      · exact ⟨by omega, by omega⟩
      · exact ⟨by omega, by omega⟩
      · exact ⟨by omega, by omega⟩
      · cases hj
end Go.Proofs.Ytnecigbncggogaa
