/- What calc.exchanged answers. Conditions: the letters lie within the bytes, the text's length is Go's. -/
import Derived.Test.YtonikoijelhojaaCalcSum
import Derived.Laws.IdiomStrings
namespace Go.Proofs.Ytonikoijelhojaa
open Go.RowKit Go.Lib
set_option linter.unusedVariables false

def exB (f o : Nat) (c : UInt8) : UInt8 := if f ≤ c.toNat ∧ c.toNat < f + 26 then UInt8.ofNat (c.toNat - f + o) else c
def exV (f o : Nat) (s : ByteArray) : ByteArray := ⟨(s.data.toList.map (exB f o)).toArray⟩
/-- The byte at a place, the first k being exchanged. -/
def mixB (f o : Nat) (k j : Nat) (c : UInt8) : UInt8 := if j < k then exB f o c else c

/-- The bytes of a text, the first k exchanged, lie at a block's beginning. -/
def Mix (w : World) (b f o : Nat) (s : ByteArray) (k : Nat) : Prop := ∀ j (h : j < s.data.size), w.cell? ⟨b, j, none⟩ = some (.int .u8 ((mixB f o k j s.data[j]).toNat : Int)) ∧ w.frozen? ⟨b, j, none⟩ = false

theorem mix_new (w : World) (f o : Nat) (s : ByteArray) (cap : Nat) (e : TypeId) : Mix (w.alloc (.cells (bytesRow s cap) e ((bytesRow s cap).size, (bytesRow s cap).size + 1))) w.heap.size f o s 0 := by
  intro j h
  refine ⟨?_, ?_⟩
  · rw [World.cell?_alloc_mark, bytesRow_at s cap j h]; simp [mixB]
  · rw [World.frozen?_alloc_mark]
    have : j < (bytesRow s cap).size := by unfold bytesRow; rw [Array.size_append, Array.size_map]; omega
    simp; omega

theorem Mix.at {w : World} {b f o : Nat} {s : ByteArray} {k : Nat} (h : Mix w b f o s k) (hk : k < s.data.size) : w.cell? ⟨b, k, none⟩ = some (.int .u8 (s.data[k].toNat : Int)) ∧ w.frozen? ⟨b, k, none⟩ = false := by
  obtain ⟨h1, h2⟩ := h k hk
  refine ⟨?_, h2⟩
  rw [h1]; simp [mixB]

theorem Mix.keep {w : World} {b f o : Nat} {s : ByteArray} {k : Nat} (h : Mix w b f o s k) (hk : k < s.data.size) (hb : exB f o s.data[k] = s.data[k]) : Mix w b f o s (k + 1) := by
  intro j hj
  obtain ⟨h1, h2⟩ := h j hj
  refine ⟨?_, h2⟩
  rw [h1]
  by_cases e : j = k
  · subst e; simp [mixB, hb]
  · have : (j < k + 1) = (j < k) := by simp; omega
    simp only [mixB, this]

theorem Mix.put {w : World} {b f o : Nat} {s : ByteArray} {k : Nat} (h : Mix w b f o s k) (hk : k < s.data.size) (n : Int) (hb : ((exB f o s.data[k]).toNat : Int) = n) : Mix (w.setCell ⟨b, k, none⟩ (.int .u8 n)) b f o s (k + 1) := by
  intro j hj
  obtain ⟨h1, h2⟩ := h j hj
  obtain ⟨k1, k2⟩ := h k hk
  by_cases e : j = k
  · subst e
    refine ⟨?_, ?_⟩
    · simp [go_sem, k1, mixB, hb]
    · simp [go_sem, k2]
  · refine ⟨?_, ?_⟩
    · have : (j < k + 1) = (j < k) := by simp; omega
      simp only [mixB, this]
      simp [go_sem, h1, mixB]
    · simp [go_sem, h2]


theorem exV_of_mix {w : World} {b f o : Nat} {s : ByteArray} (h : Mix w b f o s s.data.size) (cap : Nat) :
    (convert 66 9 (.slice (some ⟨b, 0, none⟩) s.size cap)).run Try.prog w = .ok (.string (exV f o s)) w := by
  have := run_convert_bytes_back (P := Try.prog) w 66 9 5 ⟨b, 0, none⟩ cap (s.data.toList.map (exB f o)) (by rfl) (by rfl) (by rfl) (fun j hj => by
    have hj' : j < s.data.size := by simpa using hj
    have := (h j hj').1
    simp only [mixB, hj', if_true] at this
    rw [show (⟨b, 0, none⟩ : Addr).add j = ⟨b, j, none⟩ by unfold Addr.add; split <;> simp_all]
    simpa using this)
  rw [show (s.data.toList.map (exB f o)).length = s.size by simp] at this
  exact this

theorem exB_in {f o : Nat} {c : UInt8} (h : f ≤ c.toNat) (h' : c.toNat < f + 26) (ho : o ≤ 200) : ((exB f o c).toNat : Int) = (c.toNat : Int) - f + o := by
  unfold exB
  rw [if_pos ⟨h, h'⟩]
  simp
  omega
theorem exB_out {f o : Nat} {c : UInt8} (h : ¬ (f ≤ c.toNat ∧ c.toNat < f + 26)) : exB f o c = c := if_neg h

set_option maxHeartbeats 1000000 in
theorem exchanged_any (f o : Nat) (s : ByteArray) (w : World) (hs : s.size ≤ maxLen) (hf : f ≤ 200) (ho : o ≤ 200) :
    Calls Try.prog 63 #[.string s, .int .u8 (f : Int), .int .u8 (o : Int)] w fun e w' => e = .returned (.string (exV f o s)) ∧ Below w.heap.size w w' := by
  have hc := run_bytes_of_string (P := Try.prog) w 9 66 5 s (by rfl) (by rfl) (by rfl)
  have hM := mix_new w.drew f o s (grownCap w s.size 0 5) 5
  have hB : Below w.heap.size w (w.drew.alloc (.cells (bytesRow s (grownCap w s.size 0 5)) 5 ((bytesRow s (grownCap w s.size 0 5)).size, (bytesRow s (grownCap w s.size 0 5)).size + 1))) := (Below.refl _ _).drew.alloc (Nat.le_refl _) _
  generalize w.drew.alloc (.cells (bytesRow s (grownCap w s.size 0 5)) 5 ((bytesRow s (grownCap w s.size 0 5)).size, (bytesRow s (grownCap w s.size 0 5)).size + 1)) = W at *
  generalize grownCap w s.size 0 5 = cap at *
  replace hM : Mix W w.heap.size f o s 0 := hM
  unfold maxLen at hs
  go_enter Try.func63, Try.ntmps63
  go_wp2
  go_loopw [14] (fun i wr => ∃ k : Nat, k ≤ s.size ∧ i = .int .i64 k ∧ Mix wr w.heap.size f o s k ∧ Below w.heap.size w wr) (fun i _ => s.size - (intOf i).toNat)
  case atStart => exact ⟨0, Nat.zero_le _, rfl, hM, hB⟩
  case round =>
    obtain ⟨k, hks, rfl, hK, hb⟩ := hrel
    clear hM hB hc
    by_cases hx : k < s.size
    · obtain ⟨c0, fz⟩ := hK.at hx
      have cl := cell_lt c0
      have kp := fun hh => hK.keep hx (exB_out hh)
      have pt := fun n hh => hK.put hx n hh
      have ei := fun h1 h2 => exB_in (f := f) (o := o) (c := s.data[k]'hx) h1 h2 ho
      have hlt : (s.data[k]'hx).toNat < 256 := UInt8.toNat_lt _
      generalize exB f o (s.data[k]'hx) = z at *
      generalize (s.data[k]'hx).toNat = c at *
      by_cases h1 : f ≤ c
      · by_cases h2 : c < f + 26
        · have ez := ei h1 h2
          have nx : Hid (Mix (wr.setCell ⟨w.heap.size, k, none⟩ (.int .u8 ((c : Int) - f + o))) w.heap.size f o s (k + 1)) := pt _ ez
          clear kp pt ei hK
          go_wp2
          go_roundw
          case rel => exact ⟨k + 1, by omega, by go_num, nx.out, by go_grown⟩
          case measure => simp [intOf]; omega
        · have nx : Hid (Mix wr w.heap.size f o s (k + 1)) := kp (fun h => h2 h.2)
          clear kp pt ei hK
          go_wp2
          go_roundw
          case rel => exact ⟨k + 1, by omega, by go_num, nx.out, by go_grown⟩
          case measure => simp [intOf]; omega
      · have nx : Hid (Mix wr w.heap.size f o s (k + 1)) := kp (fun h => h1 h.1)
        clear kp pt ei hK
        go_wp2
        go_roundw
        case rel => exact ⟨k + 1, by omega, by go_num, nx.out, by go_grown⟩
        case measure => simp [intOf]; omega
    · obtain rfl : k = s.size := by omega
      have bk := exV_of_mix hK cap
      clear hK hx
      go_wp2
      go_ret
      exact ⟨rfl, hb⟩
end Go.Proofs.Ytonikoijelhojaa
