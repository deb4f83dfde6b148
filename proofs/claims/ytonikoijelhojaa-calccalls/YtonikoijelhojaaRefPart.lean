/- What the document's own near and part answer. Conditions: the numbers are within the numbers, the text lies within the reach. -/
import Derived.Test.YtonikoijelhojaaRefBytes
import Derived.Test.YtonikoijelhojaaCallPart
namespace Go.Proofs.Ytonikoijelhojaa
open Go.RowKit Go.Lib Go.Sort
set_option linter.unusedVariables false

theorem near_any (pl p n : Int) (w : World) (h0 : 0 ≤ pl) (h1 : pl ≤ 281474976710656) (hp : -9223372036854775808 ≤ p) (hp0 : p < 0) (hn : 0 < n) (hn1 : n ≤ 9223372036854775807) :
    Calls Try.prog 65 #[.int .i64 pl, .int .i64 p, .int .i64 n] w fun e w' => e = .returned (.bool (decide (pl - p < n))) ∧ w' = w := by
  go_enter Try.func65, Try.ntmps65
  go_wp2
  go_ret
  exact ⟨ret_bool (by simp; omega), rfl⟩

/-- The bytes among the first k whose places count. -/
def selL (s : ByteArray) (p n : Int) : Nat → List UInt8
  | 0 => []
  | k + 1 => selL s p n k ++ (if p ≤ (k : Int) + 1 ∧ 0 < n ∧ (k : Int) + 1 - p < n then [s.data.toList.getD k 0] else [])
theorem sel_no {s : ByteArray} {p n : Int} {k : Nat} (h : ¬ (p ≤ (k : Int) + 1 ∧ 0 < n ∧ (k : Int) + 1 - p < n)) : selL s p n (k + 1) = selL s p n k := by
  show selL s p n k ++ _ = _
  rw [if_neg h, List.append_nil]
theorem sel_yes {s : ByteArray} {p n : Int} {k : Nat} (hk : k < s.size) (h : p ≤ (k : Int) + 1 ∧ 0 < n ∧ (k : Int) + 1 - p < n) : selL s p n (k + 1) = selL s p n k ++ [s[k]'hk] := by
  show selL s p n k ++ _ = _
  rw [if_pos h]
  have hk' : k < s.data.toList.length := by simpa using hk
  rw [List.getD_eq_getElem?_getD, List.getElem?_eq_getElem hk']
  rfl
theorem selL_len (s : ByteArray) (p n : Int) : ∀ k, (selL s p n k).length ≤ k
  | 0 => Nat.le_refl _
  | k + 1 => by
    have := selL_len s p n k
    show (selL s p n k ++ _).length ≤ _
    split <;> simp <;> omega

theorem selL_part (s : ByteArray) (p n : Int) (h : ¬ (n ≤ 0 ∨ min ((s.size : Int) + 1) (p + n) ≤ max p 1)) : ∀ k, k ≤ s.size → selL s p n k = (s.data.toList.take (min k (hiP s p n))).drop (loP p)
  | 0, _ => by simp [selL]
  | k + 1, hk => by
    have ih := selL_part s p n h k (by omega)
    have hk' : k < s.size := by omega
    have hlo : loP p = (max p 1 - 1).toNat := rfl
    have hhi : hiP s p n = (min ((s.size : Int) + 1) (p + n) - 1).toNat := rfl
    have hl : s.data.toList.length = s.size := by simp
    by_cases hc : p ≤ (k : Int) + 1 ∧ 0 < n ∧ (k : Int) + 1 - p < n
    · rw [sel_yes hk' hc, ih, Nat.min_eq_left (by omega : k ≤ hiP s p n), Nat.min_eq_left (by omega : k + 1 ≤ hiP s p n), take_snoc' s k hk', List.drop_append_of_le_length (by rw [List.length_take]; omega)]
    · rw [sel_no hc, ih]
      by_cases h1 : hiP s p n ≤ k
      · rw [Nat.min_eq_right h1, Nat.min_eq_right (by omega)]
      · have : k + 1 ≤ loP p := by omega
        rw [List.drop_eq_nil_of_le (by rw [List.length_take]; omega), List.drop_eq_nil_of_le (by rw [List.length_take]; omega)]

theorem selL_nil (s : ByteArray) (p n : Int) (h : n ≤ 0 ∨ min ((s.size : Int) + 1) (p + n) ≤ max p 1) : ∀ k, k ≤ s.size → selL s p n k = []
  | 0, _ => rfl
  | k + 1, hk => by
    rw [sel_no (by omega)]
    exact selL_nil s p n h k (by omega)

theorem selL_all (s : ByteArray) (p n : Int) : (⟨(selL s p n s.size).toArray⟩ : ByteArray) = partV s p n := by
  unfold partV
  split
  · next h => rw [selL_nil s p n h _ (Nat.le_refl _)]
  · next h =>
    rw [selL_part s p n h _ (Nat.le_refl _)]
    have hhi : hiP s p n = (min ((s.size : Int) + 1) (p + n) - 1).toNat := rfl
    apply ByteArray.ext
    rw [ByteArray.data_extract, Nat.min_eq_right (by omega)]
    apply Array.toList_inj.1
    simp [List.drop_take]

set_option maxHeartbeats 4000000 in
theorem rpart_any (s : ByteArray) (p n : Int) (w : World) (hs : s.size ≤ 140737488351232) (hp : inR p) (hn : inR n) :
    Calls Try.prog 51 #[.string s, .int .i64 p, .int .i64 n] w fun e w' => e = .returned (.string (partV s p n)) ∧ Below w.heap.size w w' := by
  obtain ⟨i0, hi, hz0, hz1, hz2⟩ := info_parts infoByte
  obtain ⟨p1, p2⟩ := hp
  obtain ⟨n1, n2⟩ := hn
  go_enter Try.func51, Try.ntmps51
  go_wp2
  go_loopw [7, 8] (fun b i wr => ∃ k : Nat, k ≤ s.size ∧ i = .int .i64 k ∧ OwnB wr w.heap.size b (selL s p n k) ∧ Below w.heap.size w wr) (fun _ i _ => s.size - (RowKit.intOf i).toNat)
  case atStart => exact ⟨0, Nat.zero_le _, rfl, own_nil _ _, Below.refl _ _⟩
  case round =>
    obtain ⟨k, hks, rfl, hO, hb⟩ := hrel
    by_cases hx : k < s.size
    · have hsz := hb.size
      by_cases hA : p ≤ (k : Int) + 1
      · by_cases hB : n ≤ 0
        · skip
          have HN : Hid (selL s p n (k + 1) = selL s p n k) := (sel_no (by omega))
          have HO : Hid (OwnB wr w.heap.size _ (selL s p n k)) := hO
          clear hO
          generalize selL s p n k = l at *
          go_wp2
          go_roundw
          case rel => exact ⟨k + 1, by omega, by go_num, by rw [HN.out]; exact HO.out, hb⟩
          case measure => simp [RowKit.intOf]; omega
        · have hB' : 0 < n := by omega
          clear hB
          by_cases hC : p < 0
          · have NR := fun w => near_any ((k : Int) + 1) p n w (by omega) (by omega) p1 hC hB' n2
            by_cases hD : (k : Int) + 1 - p < n
            · rw [decide_eq_true hD] at NR
              have HN : Hid (selL s p n (k + 1) = selL s p n k ++ [s[k]'hx]) := (sel_yes hx (by omega))
              have HO : Hid (OwnB wr w.heap.size _ (selL s p n k)) := hO
              have hln := selL_len s p n k
              clear hO
              generalize selL s p n k = l at *
              generalize hq : l.length = q at *
              go_wp2_with (first | (go_at_call 65; with_reducible refine (NR _).mono ?_; rintro e wn ⟨rfl, rfl⟩) | (at_builtin; refine wpList_append_lies _ rfl _ _ 66 rfl w.heap.size 5 i0 (.int .u8 0) 1 1 Try.underlying66 hi hz0 hz1 hz2 rfl (by decide) _ _ _ rfl (HO.out.alloc _) ⟨_, 0, none⟩ 1 1 [.int .u8 (s[k]'hx).toNat] rfl rfl (World.news_of_block (heap_alloc_new _ _)) (by simp [Value.oneCell']) (by decide) ?c3 ?c4 ?c5 _ rfl ?_))
              case c3 => unfold maxLen; omega
              case c4 => omega
              case c5 => first | omega | (simp; omega)
              intro g' cap' w3 hown' hgrow hat hlt'
              have HO' : Hid (OwnB w3 w.heap.size (.slice (some ⟨g', 0, none⟩) (q + 1) cap') (l ++ [s[k]'hx])) := own_snoc hq rfl hown'
              have B3 : Below w.heap.size w w3 := (hb.alloc hsz _).grown hgrow (by first | omega | (simp; omega)) (fun k hk => (HO.out.lt k hk).1)
              clear hown' hgrow hat hlt' HO
              go_wp2
              go_roundw
              case rel => exact ⟨k + 1, by omega, by go_num, by rw [HN.out]; exact HO'.out, B3⟩
              case measure => simp [RowKit.intOf]; omega
            · rw [decide_eq_false hD] at NR
              have HN : Hid (selL s p n (k + 1) = selL s p n k) := (sel_no (by omega))
              have HO : Hid (OwnB wr w.heap.size _ (selL s p n k)) := hO
              clear hO
              generalize selL s p n k = l at *
              go_wp2_with (first | (go_at_call 65; with_reducible refine (NR _).mono ?_; rintro e wn ⟨rfl, rfl⟩) | fail)
              go_roundw
              case rel => exact ⟨k + 1, by omega, by go_num, by rw [HN.out]; exact HO.out, hb⟩
              case measure => simp [RowKit.intOf]; omega
          · by_cases hD : (k : Int) + 1 - p < n
            · skip
              have HN : Hid (selL s p n (k + 1) = selL s p n k ++ [s[k]'hx]) := (sel_yes hx (by omega))
              have HO : Hid (OwnB wr w.heap.size _ (selL s p n k)) := hO
              have hln := selL_len s p n k
              clear hO
              generalize selL s p n k = l at *
              generalize hq : l.length = q at *
              go_wp2_with (first | (at_builtin; refine wpList_append_lies _ rfl _ _ 66 rfl w.heap.size 5 i0 (.int .u8 0) 1 1 Try.underlying66 hi hz0 hz1 hz2 rfl (by decide) _ _ _ rfl (HO.out.alloc _) ⟨_, 0, none⟩ 1 1 [.int .u8 (s[k]'hx).toNat] rfl rfl (World.news_of_block (heap_alloc_new _ _)) (by simp [Value.oneCell']) (by decide) ?c3 ?c4 ?c5 _ rfl ?_))
              case c3 => unfold maxLen; omega
              case c4 => omega
              case c5 => first | omega | (simp; omega)
              intro g' cap' w3 hown' hgrow hat hlt'
              have HO' : Hid (OwnB w3 w.heap.size (.slice (some ⟨g', 0, none⟩) (q + 1) cap') (l ++ [s[k]'hx])) := own_snoc hq rfl hown'
              have B3 : Below w.heap.size w w3 := (hb.alloc hsz _).grown hgrow (by first | omega | (simp; omega)) (fun k hk => (HO.out.lt k hk).1)
              clear hown' hgrow hat hlt' HO
              go_wp2
              go_roundw
              case rel => exact ⟨k + 1, by omega, by go_num, by rw [HN.out]; exact HO'.out, B3⟩
              case measure => simp [RowKit.intOf]; omega
            · skip
              have HN : Hid (selL s p n (k + 1) = selL s p n k) := (sel_no (by omega))
              have HO : Hid (OwnB wr w.heap.size _ (selL s p n k)) := hO
              clear hO
              generalize selL s p n k = l at *
              go_wp2
              go_roundw
              case rel => exact ⟨k + 1, by omega, by go_num, by rw [HN.out]; exact HO.out, hb⟩
              case measure => simp [RowKit.intOf]; omega
      · skip
        have HN : Hid (selL s p n (k + 1) = selL s p n k) := (sel_no (by omega))
        have HO : Hid (OwnB wr w.heap.size _ (selL s p n k)) := hO
        clear hO
        generalize selL s p n k = l at *
        go_wp2
        go_roundw
        case rel => exact ⟨k + 1, by omega, by go_num, by rw [HN.out]; exact HO.out, hb⟩
        case measure => simp [RowKit.intOf]; omega
    · obtain rfl : k = s.size := by omega
      have hcv := conv_own hO
      rw [selL_all] at hcv
      clear hO hx
      go_wp2
      go_ret
      exact ⟨rfl, hb⟩
end Go.Proofs.Ytonikoijelhojaa
