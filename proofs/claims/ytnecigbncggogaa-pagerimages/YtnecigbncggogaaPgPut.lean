/- What put and number of package pager do: a number's bytes, the lowest first. No conditions but the sizes. -/
import Derived.Test.YtnecigbncggogaaDkOwn
import Derived.Test.YtnecigbncggogaaPgHead
import Derived.Laws.BitsAllLaws
namespace Go.Proofs.Ytnecigbncggogaa
open Go.RowKit
set_option linter.unusedVariables false
set_option maxRecDepth 20000

/-- xs laid into cur at a place. -/
def lay (cur : List UInt8) (off : Nat) (xs : List UInt8) : List UInt8 := cur.take off ++ xs ++ cur.drop (off + xs.length)
theorem lay_nil (cur : List UInt8) (off : Nat) : lay cur off [] = cur := by simp [lay]
theorem lay_len {cur : List UInt8} {off : Nat} {xs : List UInt8} (h : off + xs.length ≤ cur.length) : (lay cur off xs).length = cur.length := by simp [lay]; omega
theorem lay_splice (cur : List UInt8) (off : Nat) (xs : List UInt8) : splice (bcells cur) off (bcells xs) = bcells (lay cur off xs) := by
  unfold splice lay
  rw [bcells_take, bcells_len, bcells_drop, bcells_append, bcells_append, List.append_assoc]
theorem lay_next (cur : List UInt8) (off : Nat) (xs : List UInt8) (k : Nat) (hk : k < xs.length) (h : off + xs.length ≤ cur.length) : (lay cur off (xs.take k)).set (off + k) xs[k] = lay cur off (xs.take (k + 1)) := by
  have e1 : (cur.take off ++ xs.take k).length = off + k := by simp; omega
  have e2 : lay cur off (xs.take k) = (cur.take off ++ xs.take k) ++ cur[off + k] :: cur.drop (off + k + 1) := by
    unfold lay
    rw [List.length_take, Nat.min_eq_left (by omega), List.getElem_cons_drop]
  have e3 : lay cur off (xs.take (k + 1)) = (cur.take off ++ xs.take k) ++ xs[k] :: cur.drop (off + k + 1) := by
    unfold lay
    rw [List.length_take, Nat.min_eq_left (by omega), List.take_succ_eq_append_getElem hk]
    simp only [List.append_assoc, List.singleton_append, Nat.add_assoc]
  rw [e2, e3, List.set_append_right _ _ (by omega), e1, Nat.sub_self]
  rfl
theorem lay_at (cur : List UInt8) (off : Nat) (xs : List UInt8) (i : Nat) (hi : i < cur.length) (h : off + xs.length ≤ cur.length) : i < (lay cur off xs).length := by rw [lay_len h]; exact hi

theorem blk_put {w : World} {g i : Nat} {cs : List Value} {t : TypeId} {v v' : Value} (h : Blk w g cs t) (e : v = v') : Blk (w.setCell ⟨g, i, none⟩ v) g (cs.set i v') t := by
  subst e
  exact h.set v
theorem u8_eq {a b : Int} (h : a = b) : Value.int .u8 a = Value.int .u8 b := by rw [h]
theorem u64_eq {a b : Int} (h : a = b) : Value.int .u64 a = Value.int .u64 b := by rw [h]
set_option maxHeartbeats 2000000 in
theorem put_any (g off n c N : Nat) (cur : List UInt8) (w : World) (hb : Blk w g (bcells cur) 5) (hn : n ≤ 8) (hf : off + n ≤ cur.length) (hN : N < 18446744073709551616) :
    Calls Try.prog 80 #[.slice (some ⟨g, off, none⟩) n c, .int .u64 (N : Int)] w fun e w' => e = .returned (.tuple #[]) ∧ Blk w' g (bcells (lay cur off (le n N))) 5 ∧ (∀ F : Nat → Prop, F g → Chg F w w') ∧ w'.heap.size = w.heap.size := by
  have HB := hid hb
  have HL := hid (le_len n N)
  clear hb
  go_enter Try.func80, Try.ntmps80
  go_wp2
  go_loopw [7] (fun i wr => ∃ k : Nat, k ≤ n ∧ i = .int .i64 (k : Int) ∧ Blk wr g (bcells (lay cur off ((le n N).take k))) 5 ∧ (∀ F : Nat → Prop, F g → Chg F w wr) ∧ wr.heap.size = w.heap.size) (fun i _ => n - (RowKit.intOf i).toNat)
  case atStart => exact ⟨0, Nat.zero_le _, rfl, by rw [List.take_zero, lay_nil]; exact HB.out, fun F _ => Chg.refl F w, rfl⟩
  case round =>
    obtain ⟨k, hk, rfl, B1, C1, S1⟩ := hrel
    clear HB
    by_cases hx : k < n
    · have hlen : k < (le n N).length := by rw [HL.out]; exact hx
      have HNx := hid (lay_next cur off (le n N) k hlen (by rw [HL.out]; exact hf))
      have hz := le_get n N k hlen
      have HB1 := hid B1
      have HC1 := hid C1
      have HS1 := hid S1
      have hfit : off + ((le n N).take k).length ≤ cur.length := by rw [List.length_take, HL.out]; omega
      have gc : wr.cell? ⟨g, off + k, none⟩ = some (.int .u8 ((lay cur off ((le n N).take k))[off + k]'(lay_at _ _ _ _ (by omega) hfit)).toNat) := (B1.cell (off + k)).trans (bcells_at _)
      have gf := B1.frozen (off + k)
      generalize (lay cur off ((le n N).take k))[off + k]'(lay_at _ _ _ _ (by omega) hfit) = old at gc
      generalize (le n N)[k]'hlen = z at *
      have HZ := hid hz
      clear B1 C1 S1 hlen hz
      have hk8 : k = 0 ∨ k = 1 ∨ k = 2 ∨ k = 3 ∨ k = 4 ∨ k = 5 ∨ k = 6 ∨ k = 7 := by omega
      rcases hk8 with rfl | rfl | rfl | rfl | rfl | rfl | rfl | rfl
      all_goals
        have hz := HZ.out
        simp only [Nat.reducePow, Nat.div_one] at hz
        try simp only [Nat.add_zero] at gc gf
        go_wp2
        go_roundw
        case rel =>
          refine ⟨_, hx, rfl, ?_, fun F hF => (HC1.out F hF).trans (chg_set _ _ _ _ hF) (fun _ _ f => f), by rw [set_size]; exact HS1.out⟩
          rw [← HNx.out, ← bcells_set]
          exact blk_put HB1.out (u8_eq (by omega))
        case measure => simp [RowKit.intOf]; omega
    · obtain rfl : k = n := by omega
      rw [List.take_of_length_le (by rw [HL.out]; exact Nat.le_refl _)] at B1
      go_wp2
      refine end0 Try.results80 rfl ?_
      exact ⟨rfl, B1, C1, S1⟩
theorem or_add (a c k : Nat) (ha : a < 2 ^ k) : a ||| c * 2 ^ k = a + 2 ^ k * c := by
  have := Nat.two_pow_add_eq_or_of_lt ha c
  rw [Nat.or_comm, Nat.mul_comm c, ← this]
  omega
theorem or_step {S y k T : Nat} {v : Int} (hS : S < 256 ^ k) (hy : y < 2 ^ 8) (hk : k < 8) (hv : v = ((y * 2 ^ (8 * k) : Nat) : Int)) (hT : T = S + 256 ^ k * y) : bits .or .u64 (S : Int) v = (T : Int) := by
  have e : (256 : Nat) ^ k = 2 ^ (8 * k) := by rw [Nat.pow_mul]
  rw [e] at hS hT
  have h1 : 2 ^ (8 * k) ≤ 2 ^ 56 := Nat.pow_le_pow_right (by decide) (by omega)
  have h2 : y * 2 ^ (8 * k) < 18446744073709551616 := by
    have := Nat.mul_le_mul (show y ≤ 255 by omega) h1
    omega
  rw [hv, u64_or_nat _ _ (by omega) h2, or_add S y (8 * k) hS, hT]
set_option maxHeartbeats 2000000 in
theorem number_any (g off c : Nat) (l : List UInt8) (w : World) (hl : l.length ≤ 8) (h : Byts w (some ⟨g, off, none⟩) l) :
    Calls Try.prog 81 #[.slice (some ⟨g, off, none⟩) l.length c] w fun e w' => e = .returned (.int .u64 (unle l : Int)) ∧ w' = w := by
  have HB := hid h
  clear h
  go_enter Try.func81, Try.ntmps81
  go_wp2
  go_loopw [3, 8] (fun s i wr => wr = w ∧ ∃ k : Nat, k ≤ l.length ∧ i = .int .i64 (k : Int) ∧ s = .int .u64 (unle (l.take k) : Int)) (fun _ i _ => l.length - (RowKit.intOf i).toNat)
  case atStart => exact ⟨rfl, 0, Nat.zero_le _, rfl, rfl⟩
  case round =>
    obtain ⟨rfl, k, hk, rfl, rfl⟩ := hrel
    by_cases hx : k < l.length
    · obtain ⟨b, off', hp, hc⟩ := HB.out.resolve_left (by rintro rfl; simp at hx)
      simp only [Option.some.injEq, Addr.mk.injEq, and_true] at hp
      obtain ⟨rfl, rfl⟩ := hp
      have hck := hc k hx
      have HT := hid (unle_take l k hx)
      have hS := unle_lt (l.take k)
      rw [List.length_take, Nat.min_eq_left (by omega)] at hS
      generalize unle (l.take k) = S at *
      generalize l[k] = z at *
      have hz := z.toNat_lt
      have HS := hid hS
      clear hc hS
      generalize z.toNat = y at *
      have hk8 : k = 0 ∨ k = 1 ∨ k = 2 ∨ k = 3 ∨ k = 4 ∨ k = 5 ∨ k = 6 ∨ k = 7 := by omega
      rcases hk8 with rfl | rfl | rfl | rfl | rfl | rfl | rfl | rfl
      all_goals
        have hs := HS.out
        simp only [Nat.reducePow] at hs
        try simp only [Nat.add_zero] at hck
        go_wp2
        go_roundw
        case rel =>
          refine ⟨trivial, _, hx, rfl, u64_eq ?_⟩
          exact or_step HS.out hz (by decide) (by simp only [Nat.reduceMul, Nat.reducePow, Nat.mul_one]; try omega) HT.out
        case measure => simp [RowKit.intOf]; omega
    · obtain rfl : k = l.length := by omega
      rw [List.take_of_length_le (Nat.le_refl _)]
      go_wp2
      go_ret
      exact ⟨rfl, rfl⟩
end Go.Proofs.Ytnecigbncggogaa
