/- Plain mathematics of the nodes of a tree and of the pieces of long values: what they are written as, and how that is read; no program is named here. No conditions. -/
import Derived.Below
namespace Go.Proofs.Ytilmlegkkgiahaa
set_option linter.unusedVariables false

/-- A cell; a node. -/
structure Cl where
  key : List UInt8
  val : List UInt8
  over : Int
  size : Int
structure Nd where
  leaf : Bool
  cells : List Cl
  keys : List (List UInt8)
  kids : List Int
def Nd.none : Nd := ⟨false, [], [], []⟩
/-- How many bytes. -/
def Cl.len (c : Cl) : Nat := 3 + c.key.length + (if c.over = 0 then c.val.length else 2)
def lenCells : List Cl → Nat
  | [] => 0
  | c :: r => c.len + lenCells r
def lenKeys : List (List UInt8) → Nat
  | [] => 0
  | k :: r => 3 + k.length + lenKeys r
def Nd.len (n : Nd) : Nat := if n.leaf then 3 + lenCells n.cells else 5 + lenKeys n.keys
theorem lenCells_append : ∀ l m : List Cl, lenCells (l ++ m) = lenCells l + lenCells m
  | [], m => by simp [lenCells]
  | c :: r, m => by simp only [List.cons_append, lenCells, lenCells_append r m]; omega
theorem lenKeys_append : ∀ l m : List (List UInt8), lenKeys (l ++ m) = lenKeys l + lenKeys m
  | [], m => by simp [lenKeys]
  | c :: r, m => by simp only [List.cons_append, lenKeys, lenKeys_append r m]; omega
/-- What is right. -/
def isPage (n : Int) : Bool := decide (2 ≤ n) && decide (n < 4096)
def Cl.ok (c : Cl) : Bool := decide (c.key.length ≤ 128) && (if c.over = 0 then decide (c.val.length ≤ 64) && decide (c.size = (c.val.length : Int)) else isPage c.over && (c.val.isEmpty && (decide (64 < c.size) && decide (c.size ≤ 2048))))
/-- Bytes stand in an order: the first that differ, or the shorter. -/
def ltB : List UInt8 → List UInt8 → Bool
  | _, [] => false
  | [], _ :: _ => true
  | a :: r, b :: s => if a.toNat < b.toNat then true else if b.toNat < a.toNat then false else ltB r s
def rises : List (List UInt8) → Bool
  | [] => true
  | [_] => true
  | a :: b :: r => ltB a b && rises (b :: r)
def Nd.fields (n : Nd) : Bool :=
  if n.leaf then !n.cells.isEmpty && (n.keys.isEmpty && (n.kids.isEmpty && (n.cells.all Cl.ok && rises (n.cells.map Cl.key))))
  else !n.keys.isEmpty && (n.cells.isEmpty && (decide (n.kids.length = n.keys.length + 1) && (n.keys.all (fun k => decide (k.length ≤ 128)) && (rises n.keys && n.kids.all isPage))))
def Nd.err (n : Nd) : Int := if n.fields then (if 508 < n.len then 8 else 0) else 3
def Nd.right (n : Nd) : Prop := n.fields = true ∧ n.len ≤ 508
theorem Nd.right_iff (n : Nd) : n.right ↔ n.err = 0 := by
  unfold Nd.right Nd.err
  cases n.fields
  · simp
  · by_cases h : 508 < n.len
    · simp [h]
    · simp [h]; omega
/-- What is written. -/
def le2 (n : Nat) : List UInt8 := [UInt8.ofNat (n % 256), UInt8.ofNat (n / 256)]
def encCl (c : Cl) : List UInt8 := UInt8.ofNat c.key.length :: (c.key ++ (le2 c.size.toNat ++ (if c.over = 0 then c.val else le2 c.over.toNat)))
def encCells : List Cl → List UInt8
  | [] => []
  | c :: r => encCl c ++ encCells r
def encKids : List (List UInt8) → List Int → List UInt8
  | k :: r, d :: e => (UInt8.ofNat k.length :: (k ++ le2 d.toNat)) ++ encKids r e
  | _, _ => []
def Nd.enc (n : Nd) : List UInt8 := if n.leaf then 1 :: (le2 n.cells.length ++ encCells n.cells) else 2 :: (le2 n.keys.length ++ (le2 (n.kids.headD 0).toNat ++ encKids n.keys n.kids.tail))
def padTo (L : Nat) (b : List UInt8) : List UInt8 := b ++ List.replicate (L - b.length) 0
def Nd.load (n : Nd) : List UInt8 := padTo 508 n.enc
theorem le2_len (n : Nat) : (le2 n).length = 2 := rfl
theorem encCl_len (c : Cl) : (encCl c).length = c.len := by
  unfold encCl Cl.len
  split <;> simp [le2_len] <;> omega
theorem encCells_len : ∀ l : List Cl, (encCells l).length = lenCells l
  | [] => rfl
  | c :: r => by rw [encCells, List.length_append, encCl_len, encCells_len r, lenCells]
theorem encKids_len : ∀ (l : List (List UInt8)) (d : List Int), d.length = l.length → (encKids l d).length = lenKeys l
  | [], [], _ => rfl
  | k :: r, d :: e, h => by
    simp only [encKids, List.length_append, List.length_cons, le2_len, lenKeys, encKids_len r e (by simpa using h)]
    omega
theorem Nd.enc_len {n : Nd} (h : n.fields = true) : n.enc.length = n.len := by
  unfold Nd.enc Nd.len
  unfold Nd.fields at h
  cases hl : n.leaf
  · rw [hl] at h
    simp only [Bool.false_eq_true, if_false, Bool.and_eq_true, decide_eq_true_eq] at h
    have hk : n.kids.tail.length = n.keys.length := by rw [List.length_tail]; omega
    simp only [Bool.false_eq_true, if_false, List.length_cons, List.length_append, le2_len, encKids_len _ _ hk]
    omega
  · simp only [if_true, List.length_cons, List.length_append, le2_len, encCells_len]
    omega
theorem Nd.load_len {n : Nd} (h : n.right) : n.load.length = 508 := by
  unfold Nd.load padTo
  have := Nd.enc_len h.1
  have := h.2
  simp
  omega

/-! ### How it is read -/
def tk (n : Nat) (b : List UInt8) : Option (List UInt8 × List UInt8) := if n ≤ b.length then some (b.take n, b.drop n) else none
theorem tk_append (a r : List UInt8) : tk a.length (a ++ r) = some (a, r) := by simp [tk]
def p1 : List UInt8 → Option (Nat × List UInt8)
  | a :: r => some (a.toNat, r)
  | [] => none
def p2 : List UInt8 → Option (Nat × List UInt8)
  | a :: b :: r => some (a.toNat + 256 * b.toNat, r)
  | _ => none
theorem le2_back {n : Nat} (h : n < 65536) (r : List UInt8) : p2 (le2 n ++ r) = some (n, r) := by
  simp only [le2, List.cons_append, List.nil_append, p2, Option.some.injEq, Prod.mk.injEq, and_true]
  have h1 : (UInt8.ofNat (n % 256)).toNat = n % 256 := by simp
  have h2 : (UInt8.ofNat (n / 256)).toNat = n / 256 := by simp; omega
  rw [h1, h2]
  omega
def pKey (b : List UInt8) : Option (List UInt8 × List UInt8) := (p1 b).bind fun x => tk x.1 x.2
theorem pKey_back {k : List UInt8} (h : k.length < 256) (r : List UInt8) : pKey (UInt8.ofNat k.length :: (k ++ r)) = some (k, r) := by
  have h1 : (UInt8.ofNat k.length).toNat = k.length := by simp; omega
  simp only [pKey, p1, Option.bind_some, h1]
  exact tk_append k r
def pCell (b : List UInt8) : Option (Cl × List UInt8) := (pKey b).bind fun k => (p2 k.2).bind fun s => if 64 < s.1 then (p2 s.2).map fun o => (⟨k.1, [], (o.1 : Int), (s.1 : Int)⟩, o.2) else (tk s.1 s.2).map fun v => (⟨k.1, v.1, 0, (s.1 : Int)⟩, v.2)
def pCells : Nat → List UInt8 → Option (List Cl × List UInt8)
  | 0, b => some ([], b)
  | k + 1, b => (pCell b).bind fun c => (pCells k c.2).map fun r => (c.1 :: r.1, r.2)
def pKids : Nat → List UInt8 → Option ((List (List UInt8) × List Int) × List UInt8)
  | 0, b => some (([], []), b)
  | k + 1, b => (pKey b).bind fun c => (p2 c.2).bind fun d => (pKids k d.2).map fun r => ((c.1 :: r.1.1, (d.1 : Int) :: r.1.2), r.2)
def parse (b : List UInt8) : Option (Nd × List UInt8) := (p1 b).bind fun t => (p2 t.2).bind fun c => if t.1 = 1 then (pCells c.1 c.2).map fun r => (⟨true, r.1, [], []⟩, r.2) else (p2 c.2).bind fun d => (pKids c.1 d.2).map fun r => (⟨false, [], r.1.1, (d.1 : Int) :: r.1.2⟩, r.2)
theorem Cl.ok_parts {c : Cl} (h : c.ok = true) : c.key.length ≤ 128 ∧ ((c.over = 0 ∧ c.val.length ≤ 64 ∧ c.size = (c.val.length : Int)) ∨ (2 ≤ c.over ∧ c.over < 4096 ∧ c.val = [] ∧ 64 < c.size ∧ c.size ≤ 2048)) := by
  unfold Cl.ok isPage at h
  by_cases h0 : c.over = 0
  · simp only [h0, if_true, Bool.and_eq_true, decide_eq_true_eq] at h
    exact ⟨h.1, Or.inl ⟨h0, h.2.1, h.2.2⟩⟩
  · simp only [h0, if_false, Bool.and_eq_true, decide_eq_true_eq, List.isEmpty_iff] at h
    exact ⟨h.1, Or.inr ⟨h.2.1.1, h.2.1.2, h.2.2.1, h.2.2.2.1, h.2.2.2.2⟩⟩
theorem pCell_back {c : Cl} (h : c.ok = true) (r : List UInt8) : pCell (encCl c ++ r) = some (c, r) := by
  obtain ⟨h1, h2⟩ := Cl.ok_parts h
  obtain ⟨key, val, over, size⟩ := c
  simp only at h1 h2
  unfold encCl pCell
  rcases h2 with ⟨h2, h3, h4⟩ | ⟨h2, h3, h4, h5, h6⟩
  · subst h2
    subst h4
    simp only [if_true, Int.toNat_natCast, List.cons_append, List.append_assoc]
    rw [pKey_back (by omega)]
    simp only [Option.bind_some]
    rw [le2_back (by omega)]
    simp only [Option.bind_some]
    rw [if_neg (by omega), tk_append]
    rfl
  · subst h4
    have ho : ¬ (over = 0) := by omega
    simp only [if_neg ho, List.cons_append, List.append_assoc]
    rw [pKey_back (by omega)]
    simp only [Option.bind_some]
    rw [le2_back (by omega)]
    simp only [Option.bind_some]
    rw [if_pos (by omega), le2_back (by omega)]
    simp only [Option.map_some, Option.some.injEq, Prod.mk.injEq, Cl.mk.injEq, true_and, and_true]
    omega
theorem pCells_back : ∀ (l : List Cl) (r : List UInt8), l.all Cl.ok = true → pCells l.length (encCells l ++ r) = some (l, r)
  | [], r, _ => rfl
  | c :: l, r, h => by
    simp only [List.all_cons, Bool.and_eq_true] at h
    simp only [List.length_cons, pCells, encCells, List.append_assoc]
    rw [pCell_back h.1]
    simp only [Option.bind_some]
    rw [pCells_back l r h.2]
    rfl
theorem pKids_back : ∀ (l : List (List UInt8)) (d : List Int) (r : List UInt8), d.length = l.length → l.all (fun k => decide (k.length ≤ 128)) = true → d.all isPage = true → pKids l.length (encKids l d ++ r) = some ((l, d), r)
  | [], [], r, _, _, _ => rfl
  | k :: l, d :: e, r, hl, h, hd => by
    simp only [List.all_cons, Bool.and_eq_true, decide_eq_true_eq, isPage] at h hd
    simp only [List.length_cons, pKids, encKids, List.append_assoc, List.cons_append]
    rw [pKey_back (by omega)]
    simp only [Option.bind_some]
    rw [le2_back (by omega)]
    simp only [Option.bind_some]
    rw [pKids_back l e r (by simpa using hl) h.2 (by simpa [isPage] using hd.2)]
    simp only [Option.map_some, Option.some.injEq, Prod.mk.injEq, List.cons.injEq, true_and, and_true]
    omega
theorem lenCells_ge : ∀ l : List Cl, 3 * l.length ≤ lenCells l
  | [] => Nat.le_refl _
  | c :: r => by
    have := lenCells_ge r
    simp only [List.length_cons, lenCells, Cl.len]
    omega
theorem lenKeys_ge : ∀ l : List (List UInt8), 3 * l.length ≤ lenKeys l
  | [] => Nat.le_refl _
  | c :: r => by
    have := lenKeys_ge r
    simp only [List.length_cons, lenKeys]
    omega
/-- A right node is read from what it is written as. -/
theorem parse_enc {n : Nd} (h : n.right) (r : List UInt8) : parse (n.enc ++ r) = some (n, r) := by
  obtain ⟨hf, hl⟩ := h
  obtain ⟨leaf, cells, keys, kids⟩ := n
  cases leaf
  · simp only [Nd.fields, Bool.false_eq_true, if_false, Bool.and_eq_true, decide_eq_true_eq, List.isEmpty_iff] at hf
    obtain ⟨h1, rfl, h3, h4, h5, h6⟩ := hf
    simp only [Nd.len, Bool.false_eq_true, if_false] at hl
    have := lenKeys_ge keys
    match kids, h3, h6 with
    | d :: e, h3, h6 =>
      simp only [List.all_cons, Bool.and_eq_true] at h6
      have hd := h6.1
      simp only [isPage, Bool.and_eq_true, decide_eq_true_eq] at hd
      simp only [Nd.enc, Bool.false_eq_true, if_false, List.headD_cons, List.tail_cons, List.cons_append, List.append_assoc, parse, p1, Option.bind_some]
      rw [le2_back (by omega)]
      simp only [Option.bind_some]
      rw [if_neg (by decide), le2_back (by omega)]
      simp only [Option.bind_some]
      rw [pKids_back keys e r (by simpa using h3) h4 h6.2]
      simp only [Option.map_some, Option.some.injEq, Prod.mk.injEq, Nd.mk.injEq, List.cons.injEq, true_and, and_true]
      omega
  · simp only [Nd.fields, if_true, Bool.and_eq_true, List.isEmpty_iff] at hf
    obtain ⟨h1, rfl, rfl, h4, h5⟩ := hf
    simp only [Nd.len, if_true] at hl
    have := lenCells_ge cells
    simp only [Nd.enc, if_true, List.cons_append, List.append_assoc, parse, p1, Option.bind_some]
    rw [le2_back (by omega)]
    simp only [Option.bind_some]
    rw [if_pos (by decide), pCells_back cells r h4]
    rfl
theorem parse_load {n : Nd} (h : n.right) : (parse n.load).map (·.1) = some n := by
  unfold Nd.load padTo
  rw [parse_enc h]
  rfl
/-- A load is one right node's. -/
theorem load_inj {n m : Nd} (hn : n.right) (hm : m.right) (h : n.load = m.load) : n = m := by
  have a := parse_load hn
  rw [h, parse_load hm] at a
  exact (Option.some.inj a).symm

/-! ### Pieces -/
def pieceOk (d : List UInt8) (next : Int) : Bool := decide (1 ≤ d.length) && (decide (d.length ≤ 503) && (decide (next = 0) || isPage next))
def piece (d : List UInt8) (next : Int) : List UInt8 := padTo 508 (3 :: (le2 next.toNat ++ (le2 d.length ++ d)))
theorem piece_parts {d : List UInt8} {next : Int} (h : pieceOk d next = true) : 1 ≤ d.length ∧ d.length ≤ 503 ∧ 0 ≤ next ∧ next < 4096 := by
  simp only [pieceOk, isPage, Bool.and_eq_true, Bool.or_eq_true, decide_eq_true_eq] at h
  omega
theorem piece_len {d : List UInt8} {next : Int} (h : pieceOk d next = true) : (piece d next).length = 508 := by
  have := piece_parts h
  simp [piece, padTo, le2_len]
  omega
def pPiece (b : List UInt8) : Option (Nat × (Nat × List UInt8)) := (p1 b).bind fun t => (p2 t.2).bind fun x => (p2 x.2).map fun l => (x.1, (l.1, l.2))
theorem pPiece_back {d : List UInt8} {next : Int} (h : pieceOk d next = true) : pPiece (piece d next) = some (next.toNat, (d.length, d ++ List.replicate (503 - d.length) 0)) := by
  have hp := piece_parts h
  simp only [piece, padTo, pPiece, p1, List.cons_append, List.append_assoc, Option.bind_some]
  rw [le2_back (by omega)]
  simp only [Option.bind_some]
  rw [le2_back (by omega)]
  simp only [Option.map_some, Option.some.injEq, Prod.mk.injEq, true_and, List.length_cons, List.length_append, le2_len]
  congr 2
  omega
theorem piece_inj {d e : List UInt8} {m n : Int} (hd : pieceOk d m = true) (he : pieceOk e n = true) (h : piece d m = piece e n) : d = e ∧ m = n := by
  have a := pPiece_back hd
  rw [h, pPiece_back he] at a
  simp only [Option.some.injEq, Prod.mk.injEq] at a
  have h1 := piece_parts hd
  have h2 := piece_parts he
  obtain ⟨a1, a2, a3⟩ := a
  refine ⟨?_, by omega⟩
  have := congrArg (List.take d.length) a3
  rw [← a2] at this
  simpa [a2] using this.symm
/-- No load is both a node's and a piece's. -/
theorem piece_no_node {d : List UInt8} {m : Int} {n : Nd} (hd : pieceOk d m = true) (hn : n.right) : piece d m ≠ n.load := by
  intro h
  have a : (piece d m).head? = some 3 := rfl
  rw [h] at a
  unfold Nd.load padTo Nd.enc at a
  cases hl : n.leaf
  · rw [hl] at a; simp at a
  · rw [hl] at a; simp at a

/-! ### A leaf that is cut -/
theorem rises_take : ∀ (l : List (List UInt8)) (k : Nat), rises l = true → rises (l.take k) = true
  | [], k, _ => by simp [rises]
  | [a], k, _ => by cases k <;> simp [rises]
  | a :: b :: r, 0, _ => by simp [rises]
  | a :: b :: r, 1, _ => by simp [rises]
  | a :: b :: r, k + 2, h => by
    simp only [rises, Bool.and_eq_true] at h
    simp only [List.take_succ_cons, rises, Bool.and_eq_true]
    refine ⟨h.1, ?_⟩
    have := rises_take (b :: r) (k + 1) h.2
    simpa using this
theorem rises_drop : ∀ (l : List (List UInt8)) (k : Nat), rises l = true → rises (l.drop k) = true
  | l, 0, h => by simpa using h
  | [], k + 1, _ => by simp [rises]
  | [a], k + 1, _ => by simp [rises]
  | a :: b :: r, k + 1, h => by
    simp only [rises, Bool.and_eq_true] at h
    simpa using rises_drop (b :: r) k h.2
theorem halves {cells : List Cl} {k : Nat} (h : (⟨true, cells, [], []⟩ : Nd).right) (h1 : 1 ≤ k) (h2 : k < cells.length) :
    (⟨true, cells.take k, [], []⟩ : Nd).right ∧ (⟨true, cells.drop k, [], []⟩ : Nd).right ∧ (⟨true, cells.take k, [], []⟩ : Nd).len + (⟨true, cells.drop k, [], []⟩ : Nd).len = (⟨true, cells, [], []⟩ : Nd).len + 3 := by
  obtain ⟨hf, hl⟩ := h
  simp only [Nd.fields, if_true, Bool.and_eq_true, List.isEmpty_iff] at hf
  obtain ⟨_, _, _, h4, h5⟩ := hf
  have e := lenCells_append (cells.take k) (cells.drop k)
  rw [List.take_append_drop] at e
  simp only [Nd.len, if_true] at hl
  have ht : (cells.take k).all Cl.ok = true := List.all_eq_true.2 fun c hc => List.all_eq_true.1 h4 c (List.mem_of_mem_take hc)
  have hd : (cells.drop k).all Cl.ok = true := List.all_eq_true.2 fun c hc => List.all_eq_true.1 h4 c (List.mem_of_mem_drop hc)
  have rt : rises ((cells.take k).map Cl.key) = true := by rw [List.map_take]; exact rises_take _ k h5
  have rd : rises ((cells.drop k).map Cl.key) = true := by rw [List.map_drop]; exact rises_drop _ k h5
  have nt : ¬ (cells.take k) = [] := by intro q; have := congrArg List.length q; rw [List.length_take, List.length_nil] at this; omega
  have nd : ¬ (cells.drop k) = [] := by intro q; have := congrArg List.length q; simp at this; omega
  refine ⟨⟨?_, ?_⟩, ⟨?_, ?_⟩, ?_⟩
  · simp only [Nd.fields, if_true, ht, rt, Bool.and_true]; simpa using nt
  · simp only [Nd.len, if_true]; omega
  · simp only [Nd.fields, if_true, hd, rd, Bool.and_true]; simpa using nd
  · simp only [Nd.len, if_true]; omega
  · simp only [Nd.len, if_true]; omega

/-! ### A leaf without one cell -/
theorem ltB_trans : ∀ {a b c : List UInt8}, ltB a b = true → ltB b c = true → ltB a c = true
  | _, [], _, h, _ => by simp [ltB] at h
  | _, _ :: _, [], _, h => by simp [ltB] at h
  | [], _ :: _, _ :: _, _, _ => by simp [ltB]
  | a :: r, b :: s, c :: t, h1, h2 => by
    simp only [ltB] at h1 h2 ⊢
    split at h1
    · split at h2
      · rw [if_pos (by omega)]
      · split at h2
        · cases h2
        · rw [if_pos (by omega)]
    · split at h1
      · cases h1
      · split at h2
        · rw [if_pos (by omega)]
        · split at h2
          · cases h2
          · rw [if_neg (by omega), if_neg (by omega)]
            exact ltB_trans h1 h2
theorem rises_erase : ∀ (l : List (List UInt8)) (k : Nat), rises l = true → rises (l.eraseIdx k) = true
  | [], k, _ => by simp [rises]
  | [a], 0, _ => by simp [rises]
  | [a], k + 1, _ => by simp [rises]
  | a :: b :: r, 0, h => by
    simp only [rises, Bool.and_eq_true] at h
    simpa using h.2
  | a :: b :: [], 1, h => by simp [rises]
  | a :: b :: c :: r, 1, h => by
    simp only [rises, Bool.and_eq_true] at h
    simp only [List.eraseIdx_cons_succ, List.eraseIdx_cons_zero, rises, Bool.and_eq_true]
    exact ⟨ltB_trans h.1 h.2.1, h.2.2⟩
  | a :: b :: r, k + 2, h => by
    simp only [rises, Bool.and_eq_true] at h
    have ih := rises_erase (b :: r) (k + 1) h.2
    simp only [List.eraseIdx_cons_succ] at ih ⊢
    simp only [rises, Bool.and_eq_true]
    exact ⟨h.1, ih⟩
theorem lenCells_erase : ∀ (l : List Cl) (k : Nat) (h : k < l.length), lenCells (l.eraseIdx k) + l[k].len = lenCells l
  | c :: r, 0, _ => by simp [lenCells]; omega
  | c :: r, k + 1, h => by
    have := lenCells_erase r k (by simpa using h)
    simp only [List.eraseIdx_cons_succ, lenCells, List.getElem_cons_succ]
    omega
theorem map_eraseIdx {α β : Type} (f : α → β) : ∀ (l : List α) (k : Nat), (l.eraseIdx k).map f = (l.map f).eraseIdx k
  | [], k => by simp
  | a :: r, 0 => by simp
  | a :: r, k + 1 => by simp [map_eraseIdx f r k]
theorem erase_right {cells : List Cl} {k : Nat} (h : (⟨true, cells, [], []⟩ : Nd).right) (hk : k < cells.length) (h1 : 1 < cells.length) : (⟨true, cells.eraseIdx k, [], []⟩ : Nd).right := by
  obtain ⟨hf, hl⟩ := h
  simp only [Nd.fields, if_true, Bool.and_eq_true, List.isEmpty_iff] at hf
  obtain ⟨_, _, _, h4, h5⟩ := hf
  simp only [Nd.len, if_true] at hl
  have e := lenCells_erase cells k hk
  have ha : (cells.eraseIdx k).all Cl.ok = true := List.all_eq_true.2 fun c hc => List.all_eq_true.1 h4 c (List.mem_of_mem_eraseIdx hc)
  have hr : rises ((cells.eraseIdx k).map Cl.key) = true := by rw [map_eraseIdx]; exact rises_erase _ k h5
  have hn : ¬ (cells.eraseIdx k) = [] := by
    intro q
    have := congrArg List.length q
    rw [List.length_eraseIdx, if_pos hk, List.length_nil] at this
    omega
  refine ⟨?_, ?_⟩
  · simp only [Nd.fields, if_true, ha, hr, Bool.and_true]; simpa using hn
  · simp only [Nd.len, if_true]; omega
/-- Behind its size a load is noughts. -/
theorem load_noughts {n : Nd} (h : n.right) {i : Nat} (h1 : n.len ≤ i) (h2 : i < 508) : n.load[i]? = some 0 := by
  unfold Nd.load padTo
  have e := Nd.enc_len h.1
  rw [List.getElem?_append_right (by omega), List.getElem?_replicate, if_pos (by omega)]
end Go.Proofs.Ytilmlegkkgiahaa
