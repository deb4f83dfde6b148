/- What the lexer's number and word answer; how digits are read by the library. Conditions: the text lies within the reach; the library's variable of errors holds what its text lays. -/
import Derived.Test.YtbaemjibaeeglaaGreatDoorLxQuo
import Derived.Lib.ParseIntBCases
namespace Go.Proofs.YtbaemjibaeeglaaGreatDoor
open Go.RowKit Go.Lib Go.Sort
set_option linter.unusedVariables false
set_option maxRecDepth 20000

theorem valD_ge : ∀ (l : List UInt8) (n : Nat), n ≤ valD n l
  | [], n => Nat.le_refl _
  | c :: r, n => by
    have := valD_ge r (10 * n + (c.toNat - 48))
    show n ≤ valD (10 * n + (c.toNat - 48)) r
    omega
theorem isD_iff (c : UInt8) : isD c = true ↔ 48 ≤ c.toNat ∧ c.toNat ≤ 57 := by
  unfold isD dig bi
  simp
  omega
theorem parseM (l : List UInt8) : ∀ (acc : Nat), (∀ c ∈ l, isD c = true) → acc ≤ 18446744073709551615 →
    (valD acc l ≤ 18446744073709551615 → parseUintM 18446744073709551615 acc l = .ok (valD acc l)) ∧ (18446744073709551615 < valD acc l → parseUintM 18446744073709551615 acc l = .range) := by
  induction l with
  | nil => intro acc _ h; exact ⟨fun _ => rfl, fun h' => absurd h' (by show ¬ _ < acc; omega)⟩
  | cons c r ih =>
    intro acc hd h
    have hc := (isD_iff c).1 (hd c List.mem_cons_self)
    have hr := fun x hx => hd x (List.mem_cons_of_mem c hx)
    have e : valD acc (c :: r) = valD (10 * acc + (c.toNat - 48)) r := rfl
    have hg := valD_ge r (10 * acc + (c.toNat - 48))
    rw [e]
    unfold parseUintM
    rw [if_pos hc]
    by_cases h1 : 1844674407370955162 ≤ acc
    · rw [if_pos h1]
      exact ⟨fun h' => by omega, fun _ => rfl⟩
    · rw [if_neg h1]
      by_cases h2 : 18446744073709551615 < acc * 10 + (c.toNat - 48)
      · rw [if_pos h2]
        exact ⟨fun h' => by omega, fun _ => rfl⟩
      · rw [if_neg h2, Nat.mul_comm acc 10]
        exact ih _ hr (by omega)
theorem parse_num (l : List UInt8) (h0 : l ≠ []) (hd : ∀ c ∈ l, isD c = true) : parseIntB 64 l = match numD l with
    | some v => .ok v
    | none => .range := by
  cases l with
  | nil => exact absurd rfl h0
  | cons c r =>
    have hc := (isD_iff c).1 (hd c List.mem_cons_self)
    rw [parseIntB_plain 64 c r (by omega) (by omega)]
    have hM := parseM (c :: r) 0 hd (by omega)
    have hP : parseUintB 64 (c :: r) = parseUintM 18446744073709551615 0 (c :: r) := by unfold parseUintB; rw [if_neg (by simp)]
    rw [hP]
    unfold numD
    by_cases h1 : valD 0 (c :: r) ≤ 9223372036854775807
    · rw [hM.1 (by omega), if_pos h1]
      simp only [signlessC]
      rw [if_neg (by omega)]
    · rw [if_neg h1]
      by_cases h2 : valD 0 (c :: r) ≤ 18446744073709551615
      · rw [hM.1 h2]
        simp only [signlessC]
        rw [if_pos (by omega)]
      · rw [hM.2 (by omega)]
        rfl

theorem cntW_all (p : UInt8 → Bool) : ∀ (l : List UInt8), ∀ c ∈ l.take (cntW p l), p c = true
  | [], c, h => by simp at h
  | d :: r, c, h => by
    by_cases hd : p d = true
    · rw [cntW_hit hd, List.take_succ_cons] at h
      rcases List.mem_cons.1 h with rfl | h
      · exact hd
      · exact cntW_all p r c h
    · rw [cntW_miss (by simpa using hd)] at h
      simp at h
theorem ext0 (s : ByteArray) (m : Nat) : (s.extract 0 m).data.toList = s.data.toList.take m := by
  rw [ext_data, List.drop_zero, Nat.sub_zero]

/-- What the library's variables hold. -/
structure Rdy (w : World) : Prop where
  rng : ∃ te pe, w.cell? ⟨3, 0, none⟩ = some (.iface te pe)
theorem Rdy.below {w w' : World} (h : Rdy w) (hb : Below w.heap.size w w') : Rdy w' := by
  obtain ⟨te, pe, hc⟩ := h.rng
  exact ⟨te, pe, lxbelow_cell hb hc⟩

set_option maxHeartbeats 4000000 in
theorem xnumber_any (s : ByteArray) (w : World) (h : 0 < s.size) (hd : isD s[0] = true) (hs : s.size ≤ 140737488351232) (hw : Rdy w) :
    Calls Tryz.prog 25 #[.string s] w fun e w' => e = .returned (fstV ((numD (s.data.toList.take (cntW isD s.data.toList))).map fun v => (⟨2, [], v⟩, cntW isD s.data.toList))) ∧ Below w.heap.size w w' := by
  have C := hid (fun w => sizeOf_digit s w hs)
  have hm := cntW_le isD s.data.toList
  have hm0 : 0 < cntW isD s.data.toList := by rw [data_cons h, cntW_hit hd]; omega
  have hall := cntW_all isD s.data.toList
  rw [show s.data.toList.length = s.size by simp] at hm
  generalize cntW isD s.data.toList = m at *
  have hP := parse_num (s.data.toList.take m) (fun e => by
    have : (s.data.toList.take m).length = 0 := by rw [e]; rfl
    rw [List.length_take, show s.data.toList.length = s.size by simp] at this
    omega) hall
  rw [← ext0] at hP
  have HX := hid (ext0 s m)
  have hsz : (s.extract 0 m).size ≤ 140737488351232 := by
    have : (s.extract 0 m).data.toList.length = (s.extract 0 m).size := by simp
    rw [← this, HX.out, List.length_take]
    simp
    omega
  rw [← HX.out]
  have B0 : Below w.heap.size w (w.alloc (.cells #[.int .i64 0, .string ⟨#[]⟩, .int .i64 0, .int .i64 0] 38)) := (Below.refl _ _).alloc (Nat.le_refl _) _
  have hres : Res (w.alloc (.cells #[.int .i64 0, .string ⟨#[]⟩, .int .i64 0, .int .i64 0] 38)) w.heap.size := heap_alloc_new w _
  have e1 : (w.alloc (.cells #[.int .i64 0, .string ⟨#[]⟩, .int .i64 0, .int .i64 0] 38)).heap.size = w.heap.size + 1 := by simp
  cases hn : numD (s.extract 0 m).data.toList with
  | some v =>
    rw [hn] at hP
    have P := hid (fun w => Tryz.strconv_ParseInt_10_at64_ok (s.extract 0 m) (by omega) v hP w)
    have HB0 := hid B0
    have HRES := hid hres
    clear hP hn hall hw B0 hres HX hsz
    go_enter Tryz.func25, Tryz.ntmps25
    go_wp2_with (first
      | (go_at_call 50; with_reducible refine (C.out _).mono ?_; rintro e w2 ⟨rfl, hw⟩; subst hw)
      | (go_at_call 51; with_reducible refine (P.out _).mono ?_; rintro e w2 ⟨rfl, hw2⟩
         have b2 : Below (w.heap.size + 1) (w.alloc (.cells #[.int .i64 0, .string ⟨#[]⟩, .int .i64 0, .int .i64 0] 38)) w2 := (by
           rcases hw2 with rfl | ⟨t, rfl⟩
           · exact Below.refl _ _
           · have := Lib.bytesWorld_below (w.alloc (.cells #[.int .i64 0, .string ⟨#[]⟩, .int .i64 0, .int .i64 0] 38)) 5 t
             rw [e1] at this
             exact this)
         obtain ⟨z0, z1, z2, z3⟩ := (HRES.out.below b2 (Nat.lt_succ_self _)).cells; have zf := (HRES.out.below b2 (Nat.lt_succ_self _)).frozen; have BB := hid (HB0.out.trans (b2.mono (Nat.le_succ _))); clear hw2 b2))
    refine bodyPost_ret (by simp [results, Tryz.results25, go_sem, z0, z1, z2, z3]; try rfl) rfl ?_
    exact ⟨rfl, below_put4 BB.out⟩
  | none =>
    rw [hn] at hP
    obtain ⟨te, pe, hc⟩ := (hw.below B0).rng
    have P := hid (Tryz.strconv_ParseInt_10_at64_range (s.extract 0 m) (by omega) hP (.iface te pe) _ hc (Or.inr ⟨_, _, rfl⟩))
    have HB0 := hid B0
    have HRES := hid hres
    clear hP hn hall hw B0 hres HX hsz hc
    rw [e1] at P
    generalize Lib.intSat 64 (s.extract 0 m).data.toList = sat at *
    go_enter Tryz.func25, Tryz.ntmps25
    go_wp2_with (first
      | (go_at_call 50; with_reducible refine (C.out _).mono ?_; rintro e w2 ⟨rfl, hw⟩; subst hw)
      | (go_at_call 51; with_reducible refine P.out.mono ?_; rintro e w2 ⟨nb, rfl, _, _, b2⟩
         obtain ⟨z0, z1, z2, z3⟩ := (HRES.out.below b2 (Nat.lt_succ_self _)).cells; have zf := (HRES.out.below b2 (Nat.lt_succ_self _)).frozen; have BB := hid (HB0.out.trans (b2.mono (Nat.le_succ _))); clear b2))
    refine bodyPost_ret (by simp [results, Tryz.results25, go_sem, z0, z1, z2, z3]; try rfl) rfl ?_
    exact ⟨rfl, below_put4 BB.out⟩

theorem isW_ascii {c : UInt8} (h : isW c = true) : c.toNat < 128 := by
  unfold isW wrd ltr dig bi at h
  simp at h
  omega

set_option maxHeartbeats 4000000 in
theorem xwordT_any (s : ByteArray) (w : World) (hs : s.size ≤ 140737488351232) :
    Calls Tryz.prog 29 #[.string s] w fun e w' => e = .returned (fstV (some (⟨1, toLowerA (s.data.toList.take (cntW isW s.data.toList)), 0⟩, cntW isW s.data.toList))) ∧ Below w.heap.size w w' := by
  have C := hid (fun w => sizeOf_word s w hs)
  have hm := cntW_le isW s.data.toList
  have hall := cntW_all isW s.data.toList
  rw [show s.data.toList.length = s.size by simp] at hm
  generalize cntW isW s.data.toList = m at *
  have HX := hid (ext0 s m)
  have hsz : (s.extract 0 m).size ≤ 140737488351232 := by
    have : (s.extract 0 m).data.toList.length = (s.extract 0 m).size := by simp
    rw [← this, HX.out, List.length_take]
    simp
    omega
  have P := hid (fun w => Tryz.strings_ToLower_ascii (s.extract 0 m) w (by omega) (fun j b hj => isW_ascii (hall b (by rw [← HX.out]; exact List.mem_of_getElem? hj))))
  rw [← HX.out]
  show Calls _ _ _ _ fun e w' => e = .returned (.tuple #[.agg #[.int .i64 1, .string ⟨(toLowerA (s.extract 0 m).data.toList).toArray⟩, .int .i64 0, .int .i64 0], .int .i64 (m : Int)]) ∧ _
  generalize (⟨(toLowerA (s.extract 0 m).data.toList).toArray⟩ : ByteArray) = LW at *
  have B0 := hid (show Below w.heap.size w (w.alloc (.cells #[.int .i64 0, .string ⟨#[]⟩, .int .i64 0, .int .i64 0] 38)) from (Below.refl _ _).alloc (Nat.le_refl _) _)
  have HRES := hid (show Res (w.alloc (.cells #[.int .i64 0, .string ⟨#[]⟩, .int .i64 0, .int .i64 0] 38)) w.heap.size from heap_alloc_new w _)
  have e1 : (w.alloc (.cells #[.int .i64 0, .string ⟨#[]⟩, .int .i64 0, .int .i64 0] 38)).heap.size = w.heap.size + 1 := by simp
  have P1 := hid (P.out (w.alloc (.cells #[.int .i64 0, .string ⟨#[]⟩, .int .i64 0, .int .i64 0] 38)))
  rw [e1] at P1
  clear hall HX hsz P e1
  go_enter Tryz.func29, Tryz.ntmps29
  go_wp2_with (first
    | (go_at_call 50; with_reducible refine (C.out _).mono ?_; rintro e w2 ⟨rfl, hw⟩; subst hw)
    | (go_at_call 54; with_reducible refine P1.out.mono ?_; rintro e w2 ⟨rfl, b2⟩
       obtain ⟨z0, z1, z2, z3⟩ := (HRES.out.below b2 (Nat.lt_succ_self _)).cells; have zf := (HRES.out.below b2 (Nat.lt_succ_self _)).frozen; have BB := hid (B0.out.trans (b2.mono (Nat.le_succ _))); clear b2))
  refine bodyPost_ret (by simp [results, Tryz.results29, go_sem, z0, z1, z2, z3]; try rfl) rfl ?_
  exact ⟨rfl, below_put4 BB.out⟩
end Go.Proofs.YtbaemjibaeeglaaGreatDoor
