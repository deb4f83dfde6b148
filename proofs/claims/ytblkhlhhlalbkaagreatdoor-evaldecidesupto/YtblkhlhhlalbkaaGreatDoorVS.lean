/- What the document's own texts and Compare answer. Condition: a text's length is Go's (at most maxLen). The document's SameRow answers true at two slices that hold the same values; and a copy made by append holds what was copied. Condition: the slices' lengths are Go's. A copy of a slice of values, made by append onto an empty slice, holds what was copied. Condition: it takes at most the reach. Rows of values that a call owns, for seats that hold the words' texts too (their bytes have names of their own). Condition: they lie within the reach. -/
import Derived.Test.YtblkhlhhlalbkaaGreatDoorValWalks
import Derived.Deep.QuietTactic
import Derived.BigQuiet
import Derived.Lib.QuietBelow
import Derived.Laws.AppendOwnNone
import Derived.Deep.AppendLies
namespace Go.Proofs.YtblkhlhhlalbkaaGreatDoor
open Go.RowKit Go.Lib
set_option linter.unusedVariables false
set_option maxRecDepth 20000

theorem compareBytes_drop : ∀ (k : Nat) (a b : List UInt8), a.take k = b.take k → compareBytes a b = compareBytes (a.drop k) (b.drop k)
  | 0, _, _, _ => rfl
  | _ + 1, [], [], _ => rfl
  | _ + 1, [], y :: b, h => by simp at h
  | _ + 1, x :: a, [], h => by simp at h
  | k + 1, x :: a, y :: b, h => by
    simp only [List.take_succ_cons, List.cons.injEq] at h
    obtain ⟨rfl, h⟩ := h
    rw [List.drop_succ_cons, List.drop_succ_cons, ← compareBytes_drop k a b h]
    show (if x < x then -1 else if x < x then 1 else compareBytes a b : Int) = _
    rw [if_neg (UInt8.lt_irrefl x), if_neg (UInt8.lt_irrefl x)]

theorem drop_at (s : ByteArray) (k : Nat) (h : k < s.size) : s.data.toList.drop k = s[k] :: s.data.toList.drop (k + 1) := by
  rw [List.drop_eq_getElem_cons (by simpa using h)]; rfl
theorem take_snoc (s : ByteArray) (k : Nat) (h : k < s.size) : s.data.toList.take (k + 1) = s.data.toList.take k ++ [s[k]] := by
  rw [List.take_succ_eq_append_getElem (by simpa using h)]; rfl

theorem texts_lt (a b : ByteArray) (k : Nat) (ha : k < a.size) (hb : k < b.size) (h : a.data.toList.take k = b.data.toList.take k) (hl : (a[k].toNat : Int) < b[k].toNat) : compareBytes a.data.toList b.data.toList = -1 := by
  rw [compareBytes_drop k _ _ h, drop_at a k ha, drop_at b k hb]
  show (if a[k] < b[k] then -1 else if a[k] > b[k] then 1 else _ : Int) = _
  rw [if_pos (UInt8.lt_iff_toNat_lt.2 (by omega))]
theorem texts_gt (a b : ByteArray) (k : Nat) (ha : k < a.size) (hb : k < b.size) (h : a.data.toList.take k = b.data.toList.take k) (hl : (b[k].toNat : Int) < a[k].toNat) : compareBytes a.data.toList b.data.toList = 1 := by
  rw [compareBytes_drop k _ _ h, drop_at a k ha, drop_at b k hb]
  show (if a[k] < b[k] then -1 else if a[k] > b[k] then 1 else _ : Int) = _
  rw [if_neg (fun q => by have := UInt8.lt_iff_toNat_lt.1 q; omega), if_pos (UInt8.lt_iff_toNat_lt.2 (by omega))]
theorem texts_same (a b : ByteArray) (k : Nat) (ha : k < a.size) (hb : k < b.size) (h : a.data.toList.take k = b.data.toList.take k) (hl : ¬ (a[k].toNat : Int) < b[k].toNat) (hg : ¬ (b[k].toNat : Int) < a[k].toNat) : a.data.toList.take (k + 1) = b.data.toList.take (k + 1) := by
  rw [take_snoc a k ha, take_snoc b k hb, h, UInt8.toNat_inj.1 (show a[k].toNat = b[k].toNat by omega)]
theorem texts_end (a b : ByteArray) (k : Nat) (hka : k ≤ a.size) (hkb : k ≤ b.size) (hk : ¬ (k < a.size ∧ k < b.size)) (h : a.data.toList.take k = b.data.toList.take k) : compareBytes a.data.toList b.data.toList = cmpI a.size b.size := by
  rw [compareBytes_drop k _ _ h]
  have la : (a.data.toList.drop k).length = a.size - k := by simp
  have lb : (b.data.toList.drop k).length = b.size - k := by simp
  revert la lb
  cases a.data.toList.drop k <;> cases b.data.toList.drop k <;> intro la lb
  · exact (cmpI_eq (by simp at la lb; omega)).symm
  · exact (cmpI_lt (by simp at la lb; omega)).symm
  · exact (cmpI_gt (by simp at la lb; omega)).symm
  · simp at la lb; omega

set_option maxHeartbeats 1000000 in
theorem texts_any (a b : ByteArray) (w : World) (hA : a.size ≤ maxLen) (hB : b.size ≤ maxLen) :
    Calls Tryz.prog 66 #[.string a, .string b] w fun e w' => e = .returned (.int .i64 (compareBytes a.data.toList b.data.toList)) ∧ ∃ n, w' = w.drewN n := by
  unfold maxLen at hA hB
  go_enter Tryz.func66, Tryz.ntmps66
  go_wp2
  go_loopw [5] (fun i wr => ∃ k : Nat, k ≤ a.size ∧ k ≤ b.size ∧ i = .int .i64 k ∧ a.data.toList.take k = b.data.toList.take k ∧ ∃ n, wr = w.drewN n) (fun i _ => a.size - (intOf i).toNat)
  case atStart => exact ⟨0, Nat.zero_le _, Nat.zero_le _, rfl, rfl, 0, rfl⟩
  case round =>
    obtain ⟨k, hka, hkb, rfl, heq, n, rfl⟩ := hrel
    have HE : Hid (a.data.toList.take k = b.data.toList.take k) := heq
    clear heq
    by_cases ha : k < a.size
    · by_cases hb : k < b.size
      · by_cases hl : (a[k].toNat : Int) < b[k].toNat
        · go_wp2
          go_quiet (fail)
          go_wp2
          go_ret
          exact ⟨ret_int (texts_lt a b k ha hb HE.out hl).symm, _, World.drewN_drewN ..⟩
        · by_cases hg : (b[k].toNat : Int) < a[k].toNat
          · go_wp2
            go_quiet (fail)
            go_wp2
            go_quiet (fail)
            go_wp2
            go_ret
            exact ⟨ret_int (texts_gt a b k ha hb HE.out hg).symm, _, by simp only [World.drewN_drewN]; rfl⟩
          · go_wp2
            go_quiet (fail)
            go_wp2
            go_quiet (fail)
            go_wp2
            go_roundw
            case rel => exact ⟨k + 1, by omega, by omega, by go_num, texts_same a b k ha hb HE.out (by omega) (by omega), _, rfl⟩
            case measure => simp [intOf]; omega
      · have he := texts_end a b k hka hkb (by omega) HE.out
        have H2 : Hid (compareBytes a.data.toList b.data.toList = cmpI a.size b.size) := he
        clear he
        go_wp2
        all_goals
          go_ret
          exact ⟨ret_int (by rw [H2.out]; first | exact (cmpI_lt (by omega)).symm | exact (cmpI_gt (by omega)).symm | exact (cmpI_eq (by omega)).symm), n, rfl⟩
    · have he := texts_end a b k hka hkb (by omega) HE.out
      have H2 : Hid (compareBytes a.data.toList b.data.toList = cmpI a.size b.size) := he
      clear he
      go_wp2
      all_goals
        go_ret
        exact ⟨ret_int (by rw [H2.out]; first | exact (cmpI_lt (by omega)).symm | exact (cmpI_gt (by omega)).symm | exact (cmpI_eq (by omega)).symm), n, rfl⟩

set_option maxHeartbeats 1000000 in
theorem refCompare_any (a b : Val) (w : World) (hA : a.s.size ≤ maxLen) (hB : b.s.size ≤ maxLen) :
    Calls Tryz.prog 49 #[a.v, b.v] w fun e w' => e = .returned (.int .i64 (cmpV a b)) ∧ Below w.heap.size w w' := by
  obtain ⟨k1, n1, s1⟩ := a
  obtain ⟨k2, n2, s2⟩ := b
  unfold Val.v
  simp only [] at hA hB
  by_cases hk1 : k1 < k2
  · have hf : cmpV ⟨k1, n1, s1⟩ ⟨k2, n2, s2⟩ = -1 := by rw [cmpV_kind (by simp only []; omega), cmpI_lt hk1]
    rw [hf]
    clear hf
    go_enter Tryz.func49, Tryz.ntmps49
    go_wp2
    go_ret
    exact ⟨rfl, by go_grown⟩
  by_cases hk2 : k2 < k1
  · have hf : cmpV ⟨k1, n1, s1⟩ ⟨k2, n2, s2⟩ = 1 := by rw [cmpV_kind (by simp only []; omega), cmpI_gt hk2]
    rw [hf]
    clear hf
    go_enter Tryz.func49, Tryz.ntmps49
    go_wp2
    go_ret
    exact ⟨rfl, by go_grown⟩
  obtain rfl : k1 = k2 := by omega
  clear hk1 hk2
  by_cases h34 : k1 = 3 ∨ k1 = 4
  · have hf : cmpV ⟨k1, n1, s1⟩ ⟨k1, n2, s2⟩ = compareBytes s1.data.toList s2.data.toList := cmpV_text rfl h34
    rw [hf]
    clear hf
    rcases h34 with rfl | rfl
    all_goals
      go_enter Tryz.func49, Tryz.ntmps49
      go_wp2_with (go_at_call 66; refine (texts_any _ _ _ hA hB).mono ?_; rintro e w' ⟨rfl, nq, rfl⟩)
      go_ret
      exact ⟨rfl, Below.trans (b := (w.alloc _).alloc _) (by go_grown) ⟨rfl, rfl, rfl, Nat.le_refl _, fun _ _ => rfl⟩⟩
  have e3 : (k1 == 3) = false := beq_eq_false_iff_ne.2 (by omega)
  have e4 : (k1 == 4) = false := beq_eq_false_iff_ne.2 (by omega)
  by_cases h12 : k1 = 1 ∨ k1 = 2
  · have hf : cmpV ⟨k1, n1, s1⟩ ⟨k1, n2, s2⟩ = cmpI n1 n2 := cmpV_num rfl h12
    rw [hf]
    clear hf e3 e4 h34
    by_cases g1 : n1 < n2
    · rw [cmpI_lt g1]
      have e5 : (n1 == n2) = false := beq_eq_false_iff_ne.2 (by omega)
      rcases h12 with rfl | rfl
      all_goals
        go_enter Tryz.func49, Tryz.ntmps49
        go_wp2
        go_ret
        exact ⟨rfl, by go_grown⟩
    · by_cases g2 : n2 < n1
      · rw [cmpI_gt g2]
        have e5 : (n1 == n2) = false := beq_eq_false_iff_ne.2 (by omega)
        rcases h12 with rfl | rfl
        all_goals
          go_enter Tryz.func49, Tryz.ntmps49
          go_wp2
          go_ret
          exact ⟨rfl, by go_grown⟩
      · obtain rfl : n1 = n2 := by omega
        rw [cmpI_eq rfl]
        clear g1 g2
        rcases h12 with rfl | rfl
        all_goals
          go_enter Tryz.func49, Tryz.ntmps49
          go_wp2
          go_ret
          exact ⟨rfl, by go_grown⟩
  · have hf : cmpV ⟨k1, n1, s1⟩ ⟨k1, n2, s2⟩ = 0 := cmpV_none rfl (by simp only []; omega) (by simp only []; omega) (by simp only []; omega) (by simp only []; omega)
    rw [hf]
    have e1 : (k1 != 1) = true := bne_iff_ne.2 (by omega)
    have e2 : (k1 != 2) = true := bne_iff_ne.2 (by omega)
    clear hf h12 h34
    go_enter Tryz.func49, Tryz.ntmps49
    go_wp2
    go_ret
    exact ⟨rfl, by go_grown⟩
end Go.Proofs.YtblkhlhhlalbkaaGreatDoor
namespace Go.Proofs.YtblkhlhhlalbkaaGreatDoor
open Go.RowKit Go.Lib Go.Sort
set_option linter.unusedVariables false
set_option maxRecDepth 20000

set_option maxHeartbeats 1000000 in
theorem sameRow_refl (xs : List Val) (pa pb : Option Addr) (ca cb : Nat) (w : World) (hA : xs.length ≤ maxLen) (rA : Row w pa xs) (rB : Row w pb xs) :
    Calls Tryz.prog 15 #[.slice pa xs.length ca, .slice pb xs.length cb] w fun e w' => e = .returned (.bool true) ∧ Below w.heap.size w w' := by
  unfold maxLen at hA
  go_enter Tryz.func15, Tryz.ntmps15
  go_wp2
  go_loopw [5] (fun i wr => ∃ k : Nat, k ≤ xs.length ∧ i = .int .i64 k ∧ ∃ n, wr = w.drewN n) (fun i _ => xs.length - (intOf i).toNat)
  case atStart => exact ⟨0, Nat.zero_le _, rfl, 0, rfl⟩
  case round =>
    obtain ⟨k, hkx, rfl, n, rfl⟩ := hrel
    by_cases hx : k < xs.length
    · obtain ⟨b1, o1, rfl, c10, c11, c12⟩ := rA.at hx
      obtain ⟨b2, o2, rfl, c20, c21, c22⟩ := rB.at hx
      generalize xs[k] = x at *
      obtain ⟨xk, xn, xt⟩ := x
      go_wp2
      go_quiet (fail)
      go_wp2
      go_roundw
      case rel => exact ⟨k + 1, by omega, by go_num, _, rfl⟩
      case measure => simp [intOf]; omega
    · go_wp2
      go_ret
      exact ⟨rfl, ⟨rfl, rfl, rfl, Nat.le_refl _, fun _ _ => rfl⟩⟩
theorem wpList_append_copy {P : Program} {w : World} {ops : Array Oper} {rest : List Oper} {o : Oper} {a : Act} {Q : Exit → Act → World → Prop} (hgd : o.guard = none) (s x : Operand) (t : TypeId)
    (ho : o.op = .call { callee := .builtin .append, args := #[s, x], argTypes := #[t, t] })
    (base : Nat) (e : TypeId) (i : TypeInfo) (z : Value) (size bytes : Nat) (ht : P.underlying t = some (.slice e)) (hi : P.info? e = some i) (hz : i.zero = some z)
    (hsize : i.size = size) (hby : i.bytes = bytes) (hzs : z.cells.size = size) (hsz : 0 < size)
    (v : Value) (hs : a.eval s = v) (hown : w.ownsRow base e size v 0 [])
    (p : Option Addr) (m c : Nat) (news : List Value) (hx : a.eval x = .slice p m c) (hl : news.length = m * size) (hp : p = none → m = 0 ∧ c = 0) (hnews : ∀ ad, p = some ad → ∀ j u, news[j]? = some u → w.cell? (ad.add j) = some u) (h1 : ∀ u ∈ news, u.oneCell' = true)
    (h63 : m ≤ maxLen) (hbytes : m * bytes ≤ 140737488355328) (hbase : base ≤ w.heap.size)
    (h : ∀ v' w', w'.ownsRow base e size v' m news → w.grownBy w' v.ownBlock → wpList P ops Q rest (a.put o.dst v') w') : wpList P ops Q (o :: rest) a w := by
  cases p with
  | none =>
    obtain ⟨rfl, rfl⟩ := hp rfl
    have hn : news = [] := List.length_eq_zero_iff.1 (by simpa using hl)
    subst hn
    exact wpList_append_own_none hgd s x t ho base e i size ht hi v 0 [] hs hown hx (h v w hown ⟨rfl, rfl, rfl, Nat.le_refl _, fun _ _ _ => rfl⟩)
  | some ad =>
    refine wpList_append_own w hgd s x t ho base e i z size bytes ht hi hz hsize hby hzs hsz v 0 [] hs hown ad m c news hx hl (hnews ad rfl) h1 (by omega) (by rw [Nat.zero_add]; exact hbytes) hbase ?_
    intro v' w' h2 h3 _
    exact h v' w' (by simpa using h2) h3

/-- The cells of a row of values. -/
def cellsV : List Val → List Value
  | [] => []
  | a :: l => .int .i64 a.k :: .int .i64 a.n :: .string a.s :: cellsV l
theorem cellsV_length : ∀ l : List Val, (cellsV l).length = l.length * 3
  | [] => rfl
  | a :: l => by simp [cellsV, cellsV_length l]; omega
theorem cellsV_one : ∀ (l : List Val), ∀ u ∈ cellsV l, u.oneCell' = true
  | [], u, h => by simp [cellsV] at h
  | a :: l, u, h => by
    simp only [cellsV, List.mem_cons] at h
    rcases h with rfl | rfl | rfl | h
    · rfl
    · rfl
    · rfl
    · exact cellsV_one l u h
theorem cellsV_at : ∀ (l : List Val) (i : Nat) (h : i < l.length), (cellsV l)[i * 3]? = some (.int .i64 l[i].k) ∧ (cellsV l)[i * 3 + 1]? = some (.int .i64 l[i].n) ∧ (cellsV l)[i * 3 + 2]? = some (.string l[i].s)
  | a :: l, 0, _ => ⟨rfl, rfl, rfl⟩
  | a :: l, i + 1, h => by
    have ih := cellsV_at l i (by simpa using h)
    rw [show (i + 1) * 3 = i * 3 + 1 + 1 + 1 by omega]
    simpa [cellsV] using ih

theorem add_cell (b off j : Nat) : (⟨b, off, none⟩ : Addr).add j = ⟨b, off + j, none⟩ := by
  unfold Addr.add
  split
  · subst_vars; rfl
  · rfl

/-- What is read at each place, as the law on append wants it. -/
theorem Row.cells {w : World} {p : Option Addr} {vs : List Val} (h : Row w p vs) : ∀ ad, p = some ad → ∀ j u, (cellsV vs)[j]? = some u → w.cell? (ad.add j) = some u := by
  intro ad hp j u hu
  rcases h with h | ⟨b, off, hp', hc⟩
  · subst h; simp [cellsV] at hu
  · rw [hp'] at hp
    obtain rfl := Option.some.inj hp
    rw [add_cell]
    have hj : j < vs.length * 3 := by
      rw [← cellsV_length]
      exact (List.getElem?_eq_some_iff.1 hu).1
    obtain ⟨i, r, hr, rfl⟩ : ∃ i r, r < 3 ∧ j = i * 3 + r := ⟨j / 3, j % 3, by omega, by omega⟩
    have hi : i < vs.length := by omega
    have e := cellsV_at vs i hi
    have c := hc i hi
    match r, hr with
    | 0, _ => rw [Nat.add_zero] at hu ⊢; rw [e.1] at hu; rw [← hu]; exact c.1
    | 1, _ => rw [e.2.1] at hu; rw [← hu]; exact c.2.1
    | 2, _ => rw [e.2.2] at hu; rw [← hu]; exact c.2.2

/-- A row that the call owns, as a slice of values. -/
theorem Row.of_owns {w : World} {base e : Nat} {v : Value} {n : Nat} {vs : List Val} (h : w.ownsRow base e 3 v n (cellsV vs)) : n = vs.length ∧ ∃ p cap, v = .slice p vs.length cap ∧ vs.length ≤ maxLen ∧ Row w p vs := by
  obtain ⟨h1, h2⟩ := h
  rw [cellsV_length] at h1
  obtain rfl : n = vs.length := by omega
  refine ⟨rfl, ?_⟩
  rcases h2 with ⟨rfl, h0⟩ | ⟨g, cap, cur, rfl, hg, hh, hle, hm, hs, ht⟩
  · have : vs = [] := List.length_eq_zero_iff.1 h0
    subst this
    exact ⟨none, 0, rfl, Nat.zero_le _, Or.inl rfl⟩
  · refine ⟨_, cap, rfl, by omega, Or.inr ⟨g, 0, rfl, fun i hi => ?_⟩⟩
    have e := cellsV_at vs i hi
    have key : ∀ j u, j < vs.length * 3 → (cellsV vs)[j]? = some u → w.cell? ⟨g, 0 + j, none⟩ = some u := by
      intro j u hj hu
      rw [← ht, List.getElem?_take, if_pos hj, Array.getElem?_toList] at hu
      simp [World.cell?, hh, hu]
    exact ⟨key _ _ (by omega) e.1, key _ _ (by omega) e.2.1, key _ _ (by omega) e.2.2⟩

/-- A row of bools that the call owns. -/
theorem Bits.of_owns {w : World} {base e : Nat} {v : Value} {n : Nat} {ds : List Bool} (h : w.ownsRow base e 1 v n (ds.map .bool)) : n = ds.length ∧ ∃ p cap, v = .slice p ds.length cap ∧ ds.length ≤ maxLen ∧ Bits w p ds := by
  obtain ⟨h1, h2⟩ := h
  rw [List.length_map] at h1
  obtain rfl : n = ds.length := by omega
  refine ⟨rfl, ?_⟩
  rcases h2 with ⟨rfl, h0⟩ | ⟨g, cap, cur, rfl, hg, hh, hle, hm, hs, ht⟩
  · have : ds = [] := List.length_eq_zero_iff.1 h0
    subst this
    exact ⟨none, 0, rfl, Nat.zero_le _, Or.inl rfl⟩
  · refine ⟨_, cap, rfl, by omega, Or.inr ⟨g, 0, rfl, fun i hi => ?_⟩⟩
    have hu : (ds.map Value.bool)[i]? = some (.bool ds[i]) := by simp [hi]
    rw [← ht, List.getElem?_take, if_pos (by omega), Array.getElem?_toList] at hu
    simp [World.cell?, hh, hu]
theorem Bits.cells {w : World} {p : Option Addr} {ds : List Bool} (h : Bits w p ds) : ∀ ad, p = some ad → ∀ j u, (ds.map Value.bool)[j]? = some u → w.cell? (ad.add j) = some u := by
  intro ad hp j u hu
  rcases h with h | ⟨b, off, hp', hc⟩
  · subst h; simp at hu
  · rw [hp'] at hp
    obtain rfl := Option.some.inj hp
    rw [add_cell]
    have hj : j < ds.length := by
      have := (List.getElem?_eq_some_iff.1 hu).1
      simpa using this
    rw [List.getElem?_map, List.getElem?_eq_getElem hj] at hu
    simp only [Option.map_some, Option.some.injEq] at hu
    rw [← hu]
    exact hc j hj
end Go.Proofs.YtblkhlhhlalbkaaGreatDoor
namespace Go.Proofs.YtblkhlhhlalbkaaGreatDoor
open Go.RowKit Go.Lib Go.Sort
set_option linter.unusedVariables false
set_option maxRecDepth 20000

theorem infoV : (Tryz.prog.info? 23).map (fun i => (i.zero, i.size, i.bytes)) = some (some (.agg #[.int .i64 0, .int .i64 0, .string ByteArray.empty]), 3, 32) := by kernel_rfl

theorem alloc_below (w : World) (o : Obj) : Below w.heap.size w (w.alloc o) := (Below.refl _ _).alloc (Nat.le_refl _) o

/-- A copy of a row of values, made by append onto an empty slice. -/
theorem copyV {ops : Array Oper} {rest : List Oper} {o : Oper} {a : Act} {Q : Exit → Act → World → Prop} (w0 : World) (g : Nat) (s x : Operand) (p : Option Addr) (xs : List Val) (c : Nat) (hgd : o.guard = none)
    (ho : o.op = .call { callee := .builtin .append, args := #[s, x], argTypes := #[27, 27] })
    (hg : g = w0.heap.size) (hs : a.eval s = .slice (some ⟨g, 0, none⟩) 0 0) (hx : a.eval x = .slice p xs.length c)
    (hp : p = none → xs.length = 0 ∧ c = 0) (rX : Row w0 p xs) (hb : xs.length * 32 ≤ 140737488351232)
    (h : ∀ p' c' w', Row w' p' xs → Below w0.heap.size w0 w' → wpList Tryz.prog ops Q rest (a.put o.dst (.slice p' xs.length c')) w') :
    wpList Tryz.prog ops Q (o :: rest) a (w0.alloc (.cells #[] 23)) := by
  obtain ⟨iV, hiV, hz0, hz1, hz2⟩ := info_parts infoV
  subst hg
  have own := World.ownsRow_made (base := w0.heap.size) (e := 23) (size := 3) w0 #[] 0 (Nat.le_refl _) (Nat.zero_le _) rfl
  refine wpList_append_copy hgd s x 27 ho w0.heap.size 23 iV _ 3 32 Tryz.underlying27 hiV hz0 hz1 hz2 rfl (by decide) _ hs own p xs.length c (cellsV xs) hx (cellsV_length xs) hp (rX.below (alloc_below w0 _)).cells (cellsV_one xs) (by unfold maxLen; omega) (by omega) (by simp) ?_
  intro v' w' h1 h2
  obtain ⟨_, p', c', rfl, _, r⟩ := Row.of_owns h1
  exact h p' c' w' r ((alloc_below w0 _).trans ((Below.refl w0.heap.size _).grown h2 (by simp) (fun k hk => by simp [Value.ownBlock] at hk; omega)))

end Go.Proofs.YtblkhlhhlalbkaaGreatDoor
namespace Go.Proofs.YtblkhlhhlalbkaaGreatDoor
open Go.RowKit Go.Lib Go.Sort
set_option linter.unusedVariables false
set_option maxRecDepth 20000

/-- A row of values that the call owns; nil, if it has none yet. -/
def OwnV (w : World) (base : Nat) (v : Value) (xs : List Val) : Prop := w.ownsRow base 23 3 v xs.length (cellsV xs)
theorem ownV_nil (w : World) (base : Nat) : OwnV w base (.slice none 0 0) [] := World.ownsRow_nil w base _ _
theorem cellsV_snoc : ∀ (xs : List Val) (a : Val), cellsV xs ++ [.int .i64 a.k, .int .i64 a.n, .string a.s] = cellsV (xs ++ [a])
  | [], a => rfl
  | x :: xs, a => by simp only [cellsV, List.cons_append, cellsV_snoc xs a]
theorem OwnV.below {w w' : World} {base : Nat} {v : Value} {l : List Val} (o : OwnV w base v l) (B : Below w.heap.size w w') : OwnV w' base v l := by
  obtain ⟨h1, h2⟩ := o
  refine ⟨h1, ?_⟩
  rcases h2 with h2 | ⟨g, cap, cur, hv, hg, hh, r⟩
  · exact Or.inl h2
  · exact Or.inr ⟨g, cap, cur, hv, hg, by rw [B.block g (Array.getElem?_eq_some_iff.1 hh).1]; exact hh, r⟩
theorem ownV_mono {w : World} {b b' : Nat} {v : Value} {l : List Val} (h : OwnV w b v l) (hb : b' ≤ b) : OwnV w b' v l := by
  obtain ⟨h1, h2⟩ := h
  refine ⟨h1, ?_⟩
  rcases h2 with h2 | ⟨g, cap, cur, hv, hg, r⟩
  · exact Or.inl h2
  · exact Or.inr ⟨g, cap, cur, hv, Nat.le_trans hb hg, r⟩
theorem ownV_slice {w : World} {base : Nat} {v : Value} {l : List Val} (o : OwnV w base v l) : ∃ p c, v = .slice p l.length c ∧ Row w p l ∧ (p = none → l.length = 0 ∧ c = 0) ∧ l.length ≤ maxLen := by
  obtain ⟨_, p, c, hv, hm, r⟩ := Row.of_owns o
  refine ⟨p, c, hv, r, ?_, hm⟩
  intro hp
  subst hp
  obtain ⟨_, h2⟩ := o
  rcases h2 with ⟨h0, hn⟩ | ⟨g, cap, cur, hg, _⟩
  · rw [hv] at h0
    simp only [Value.slice.injEq, true_and] at h0
    exact h0
  · rw [hv] at hg
    cases hg

/-- append(s, x) of an owned row of values. -/
theorem appV {ops : Array Oper} {rest : List Oper} {o : Oper} {a : Act} {Q : Exit → Act → World → Prop} (w0 : World) (base g : Nat) (s x : Operand) (v : Value) (l : List Val) (k n : Int) (t : ByteArray) (hgd : o.guard = none)
    (ho : o.op = .call { callee := .builtin .append, args := #[s, x], argTypes := #[27, 27] }) (hs : a.eval s = v) (hx : a.eval x = .slice (some ⟨g, 0, none⟩) 1 1) (hg : g = w0.heap.size)
    (O : OwnV w0 base v l) (hl : (l.length + 1) * 32 ≤ 140737488351232) (hb : base ≤ w0.heap.size)
    (h : ∀ v' w', OwnV w' base v' (l ++ [⟨k, n, t⟩]) → Below base w0 w' → wpList Tryz.prog ops Q rest (a.put o.dst v') w') :
    wpList Tryz.prog ops Q (o :: rest) a (w0.alloc (.cells #[.int .i64 k, .int .i64 n, .string t] 23)) := by
  obtain ⟨i0, hi, hz0, hz1, hz2⟩ := info_parts infoV
  subst hg
  refine wpList_append_lies _ hgd s x 27 ho base 23 i0 _ 3 32 Tryz.underlying27 hi hz0 hz1 hz2 rfl (by decide) v _ _ hs (O.alloc _) ⟨w0.heap.size, 0, none⟩ 1 1 [.int .i64 k, .int .i64 n, .string t] hx rfl (World.news_of_block (heap_alloc_new w0 _)) (by simp [Value.oneCell']) (by decide) (by unfold maxLen; omega) (by omega) (by simp; omega) _ rfl ?_
  intro g' cap' w3 hown hgrow hat hlt
  rw [cellsV_snoc l ⟨k, n, t⟩] at hown
  have hown' : OwnV w3 base (.slice (some ⟨g', 0, none⟩) (l.length + 1) cap') (l ++ [⟨k, n, t⟩]) := by
    unfold OwnV
    rw [List.length_append]
    exact hown
  exact h _ w3 hown' (((Below.refl base w0).alloc hb _).grown hgrow (by simp; omega) (fun k hk => (O.lt k hk).1))
theorem cellsV_append : ∀ (xs ys : List Val), cellsV xs ++ cellsV ys = cellsV (xs ++ ys)
  | [], ys => rfl
  | x :: xs, ys => by simp only [cellsV, List.cons_append, cellsV_append xs ys]
theorem own_litV (w : World) : OwnV (w.alloc (.cells #[] 23)) w.heap.size (.slice (some ⟨w.heap.size, 0, none⟩) 0 0) [] := World.ownsRow_made w #[] 0 (Nat.le_refl _) (Nat.zero_le _) rfl

/-- append(s, x...) of a row of values onto an owned one. -/
theorem appVs {ops : Array Oper} {rest : List Oper} {o : Oper} {a : Act} {w : World} {Q : Exit → Act → World → Prop} (base : Nat) (s x : Operand) (v : Value) (xs ys : List Val) (p : Option Addr) (c : Nat) (hgd : o.guard = none)
    (ho : o.op = .call { callee := .builtin .append, args := #[s, x], argTypes := #[27, 27] }) (hs : a.eval s = v) (hx : a.eval x = .slice p ys.length c)
    (O : OwnV w base v xs) (hp : p = none → ys.length = 0 ∧ c = 0) (rY : Row w p ys) (hl : (xs.length + ys.length) * 32 ≤ 140737488351232) (hb : base ≤ w.heap.size)
    (h : ∀ v' w', OwnV w' base v' (xs ++ ys) → Below base w w' → wpList Tryz.prog ops Q rest (a.put o.dst v') w') :
    wpList Tryz.prog ops Q (o :: rest) a w := by
  obtain ⟨i0, hi, hz0, hz1, hz2⟩ := info_parts infoV
  cases p with
  | none =>
    obtain ⟨h0, rfl⟩ := hp rfl
    obtain rfl : ys = [] := List.length_eq_zero_iff.1 h0
    refine wpList_append_own_none hgd s x 27 ho base 23 i0 3 Tryz.underlying27 hi v _ _ hs O hx (h v w ?_ (Below.refl _ _))
    rw [List.append_nil]
    exact O
  | some ad =>
    refine wpList_append_own w hgd s x 27 ho base 23 i0 _ 3 32 Tryz.underlying27 hi hz0 hz1 hz2 rfl (by decide) v _ _ hs O ad ys.length c (cellsV ys) hx (cellsV_length ys) (rY.cells ad rfl) (cellsV_one ys) (by unfold maxLen; omega) (by omega) hb ?_
    intro v' w' h2 h3 _
    refine h v' w' ?_ ((Below.refl base w).grown h3 hb (fun k hk => (O.lt k hk).1))
    unfold OwnV
    rw [List.length_append, ← cellsV_append]
    exact h2
end Go.Proofs.YtblkhlhhlalbkaaGreatDoor
