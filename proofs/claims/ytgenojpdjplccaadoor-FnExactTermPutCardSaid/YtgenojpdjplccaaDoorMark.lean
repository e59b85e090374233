/- The laws' own markText: the text of a number; no program's part is spoken of here but the law's · The laws' own marks: markIntS and heldIntS from any number on, markNameS, heldNameS · The laws' own marks of an image: markImage, heldImage. -/
import Derived.Test.YtgenojpdjplccaaDoorImg
import Derived.Laws.IdiomStrings
import Derived.Laws.Concat
import Derived.Test.YtgenojpdjplccaaDoorHarn
set_option linter.unusedSimpArgs false
set_option linter.unusedVariables false
namespace Go.Proofs.YtgenojpdjplccaaDoor.Im
open Go.RowKit Pl Ft Mm In C2

def digs : Nat → Nat → ByteArray → ByteArray
  | 0, _, acc => acc
  | f + 1, n, acc => if n = 0 then acc else digs f (n / 10) (⟨#[UInt8.ofNat (48 + n % 10)]⟩ ++ acc)
def mk (k : Int) : ByteArray := if k ≤ 0 then ⟨#[109, 48]⟩ else ⟨#[109]⟩ ++ digs k.toNat k.toNat ⟨#[]⟩
theorem digs_zero (f : Nat) (acc : ByteArray) : digs f 0 acc = acc := by cases f <;> simp [digs]
theorem digs_step (f n : Nat) (acc : ByteArray) (h : 0 < n) : digs (f + 1) n acc = digs f (n / 10) (⟨#[UInt8.ofNat (48 + n % 10)]⟩ ++ acc) := by
  rw [digs, if_neg (by omega)]
theorem mk_pos (k : Nat) (h : 0 < k) : mk (k : Int) = ⟨#[109]⟩ ++ digs k k ⟨#[]⟩ := by
  unfold mk
  rw [if_neg (by omega), Int.toNat_natCast]
theorem one_size (b : UInt8) (acc : ByteArray) : ((⟨#[b]⟩ : ByteArray) ++ acc).size = acc.size + 1 := by
  rw [ByteArray.size_append]
  show 1 + _ = _
  omega
theorem conv_one (w : World) (x : Nat) (hx : x < 256) :
    (convert 22 9 (.slice (some ⟨w.heap.size, 0, none⟩) 1 1)).run Tryd.prog (w.alloc (.cells #[.int .u8 (x : Int)] 5)) = .ok (.string ⟨#[UInt8.ofNat x]⟩) (w.alloc (.cells #[.int .u8 (x : Int)] 5)) := by
  have h := run_convert_bytes_back (P := Tryd.prog) (w.alloc (.cells #[.int .u8 (x : Int)] 5)) 22 9 5 ⟨w.heap.size, 0, none⟩ 1 [UInt8.ofNat x] Tryd.underlying22 Tryd.underlying5 Tryd.underlying9 (fun j hj => by
    have hj0 : j = 0 := by simpa using hj
    subst hj0
    have e : ((UInt8.ofNat x).toNat : Int) = (x : Int) := by simp; omega
    simp only [List.getElem_cons_zero]
    rw [e]
    exact new_cells w #[.int .u8 (x : Int)] _ _ rfl 0 _ rfl)
  exact h
theorem add_one (w : World) (x : Nat) (acc : ByteArray) (h : acc.size ≤ 4611686018427387904) : (Op.stringOp .add ⟨#[UInt8.ofNat x]⟩ acc).run Tryd.prog w = .ok (.string (⟨#[UInt8.ofNat x]⟩ ++ acc)) w :=
  run_string_add_sum w _ _ (by
    have : (⟨#[UInt8.ofNat x]⟩ : ByteArray).size = 1 := rfl
    omega)
set_option maxHeartbeats 1000000 in
theorem markText_c (k : Nat) (w : World) (hk0 : 0 < k) (hk : k ≤ 4611686018427387900) :
    Calls Tryd.prog 110 #[.int .i64 k] w fun e w' => e = .returned (.string (mk k)) ∧ Below w.heap.size w w' := by
  have HMk := hid (mk_pos k hk0)
  go_enter Tryd.func110, Tryd.ntmps110
  go_wp2_with fail
  go_loopw [0, 3] (fun x s wr => ∃ (f n : Nat) (acc : ByteArray), x = .int .i64 n ∧ s = .string acc ∧ digs f n acc = digs k k ⟨#[]⟩ ∧ n ≤ f ∧ f ≤ k ∧ acc.size + n ≤ k ∧ Below w.heap.size w wr) (fun x _ _ => (intOf x).toNat)
  case atStart => exact ⟨k, k, ⟨#[]⟩, rfl, rfl, rfl, by omega, by omega, by show 0 + k ≤ k; omega, Below.refl _ _⟩
  case round =>
    obtain ⟨f, n, acc, rfl, rfl, hd, hnf, hfk, hsz, hbel⟩ := hrel
    have HD := hid hd
    have HBe := hid hbel
    have hz := hbel.size
    clear hd hbel
    by_cases hn : 0 < n
    · obtain ⟨f', rfl⟩ : ∃ f', f = f' + 1 := ⟨f - 1, by omega⟩
      have hc := conv_one wr (48 + n % 10) (by omega)
      have ha := add_one (wr.alloc (.cells #[.int .u8 ((48 + n % 10 : Nat) : Int)] 5)) (48 + n % 10) acc (by omega)
      have e : ((48 + n % 10 : Nat) : Int) = 48 + (n : Int) % 10 := by omega
      rw [e] at hc ha
      clear e
      have hstep := (digs_step f' n acc hn).symm.trans HD.out
      obtain ⟨b, hb⟩ : ∃ b, UInt8.ofNat (48 + n % 10) = b := ⟨_, rfl⟩
      rw [hb] at hc ha hstep
      have HStep := hid hstep
      have HSz := hid (one_size b acc)
      clear hb hstep
      go_wp2_with fail
      go_roundw
      case rel => exact ⟨f', n / 10, ⟨#[b]⟩ ++ acc, by go_num, rfl, HStep.out, by omega, by omega, by rw [HSz.out]; omega, HBe.out.alloc (by omega) _⟩
      case measure => simp [intOf]; omega
    · have ha : (Op.stringOp .add ⟨#[109]⟩ acc).run Tryd.prog wr = .ok (.string (⟨#[109]⟩ ++ acc)) wr := run_string_add_sum wr _ _ (by
        have : (⟨#[109]⟩ : ByteArray).size = 1 := rfl
        omega)
      go_wp2_with fail
      go_ret
      obtain rfl : n = 0 := by omega
      exact ⟨ret_eq (congrArg Value.string (by rw [HMk.out, ← HD.out, digs_zero])), HBe.out⟩
end Go.Proofs.YtgenojpdjplccaaDoor.Im
namespace Go.Proofs.YtgenojpdjplccaaDoor.Im
open Go.RowKit Pl Ft Mm In C2

/-- The world w' is w but for new blocks and for the blocks that p tells. -/
structure Only (p : Nat → Prop) (w w' : World) : Prop where
  os : w'.os = w.os
  tape : w'.tape = w.tape
  output : w'.output = w.output
  size : w.heap.size ≤ w'.heap.size
  block : ∀ k, k < w.heap.size → ¬ p k → w'.heap[k]? = w.heap[k]?
theorem Only.refl (p : Nat → Prop) (w : World) : Only p w w := ⟨rfl, rfl, rfl, Nat.le_refl _, fun _ _ _ => rfl⟩
theorem Only.trans {p : Nat → Prop} {a b c : World} (h : Only p a b) (k : Only p b c) : Only p a c :=
  ⟨k.os.trans h.os, k.tape.trans h.tape, k.output.trans h.output, Nat.le_trans h.size k.size, fun i hi hn => (k.block i (Nat.lt_of_lt_of_le hi h.size) hn).trans (h.block i hi hn)⟩
theorem Only.mono {p q : Nat → Prop} {a b : World} (h : Only p a b) (hpq : ∀ k, p k → q k) : Only q a b :=
  ⟨h.os, h.tape, h.output, h.size, fun i hi hn => h.block i hi (fun hp => hn (hpq i hp))⟩
theorem Only.of_below {p : Nat → Prop} {a b : World} (h : Below a.heap.size a b) : Only p a b :=
  ⟨h.os, h.tape, h.output, h.size, fun i hi _ => h.block i hi⟩
theorem Only.below {p : Nat → Prop} {B : Nat} {a b : World} (h : Only p a b) (hB : B ≤ a.heap.size) (hp : ∀ k, p k → B ≤ k) : Below B a b :=
  ⟨h.os, h.tape, h.output, h.size, fun i hi => h.block i (by omega) (fun hpi => by have := hp i hpi; omega)⟩
theorem Only.setCell {p : Nat → Prop} {a b : World} (h : Only p a b) {g : Nat} (hp : p g) (o : Nat) (u : Value) : Only p a (b.setCell ⟨g, o, none⟩ u) :=
  h.trans ⟨rfl, rfl, rfl, by simp [World.setCell], fun k _ hn => Below.heap_setCell _ _ _ _ (fun e => hn (by simp at e; rw [e]; exact hp))⟩
theorem Only.fresh {p : Nat → Prop} {a b : World} (h : Only p a b) {g : Nat} (hg : a.heap.size ≤ g) (o : Nat) (u : Value) : Only p a (b.setCell ⟨g, o, none⟩ u) :=
  ⟨h.os, h.tape, h.output, by have := h.size; simpa [World.setCell] using this, fun k hk hn => (Below.heap_setCell _ _ _ _ (by simp; omega)).trans (h.block k hk hn)⟩
theorem own_only {p : Nat → Prop} {w w' : World} {base : Nat} {e : TypeId} {size : Nat} {v : Value} {n : Nat} {xs : List Value} (h : w.ownsRow base e size v n xs) (hv : ∀ g, v.ownBlock = some g → ¬ p g) (hb : Only p w w') : w'.ownsRow base e size v n xs := by
  refine ⟨h.1, ?_⟩
  rcases h.2 with h0 | ⟨g, cap, cur, rfl, hg, hr, hrest⟩
  · exact .inl h0
  · exact .inr ⟨g, cap, cur, rfl, hg, (hb.block g (Array.getElem?_eq_some_iff.1 hr).1 (hv g rfl)).trans hr, hrest⟩
theorem row_only {p : Nat → Prop} {w w' : World} {g : Nat} {t : TypeId} {cs : Array Value} (h : Row w g t cs) (hg : ¬ p g) (hb : Only p w w') : Row w' g t cs := (hb.block g h.lt hg).trans h
/-- Rows of different element types lie in different blocks. -/
theorem own_apart {w : World} {b1 b2 : Nat} {e1 e2 : TypeId} {s1 s2 : Nat} {v1 v2 : Value} {n1 n2 : Nat} {xs ys : List Value} (h1 : w.ownsRow b1 e1 s1 v1 n1 xs) (h2 : w.ownsRow b2 e2 s2 v2 n2 ys) (hne : e1 ≠ e2) (g : Nat) (hg : v1.ownBlock = some g) : v2.ownBlock ≠ some g := by
  intro hg2
  rcases h1.2 with ⟨rfl, _⟩ | ⟨g1, cap, cur, rfl, _, hr, _⟩
  · cases hg
  rcases h2.2 with ⟨rfl, _⟩ | ⟨g2, cap2, cur2, rfl, _, hr2, _⟩
  · cases hg2
  simp only [Value.ownBlock, Option.some.injEq] at hg hg2
  subst hg
  subst hg2
  rw [hr] at hr2
  simp only [Option.some.injEq, Obj.cells.injEq] at hr2
  exact hne hr2.2.1
def nmMarks (s n : Nat) : List Nm := (List.range n).map fun j => ⟨mk ((s + 2 * j : Nat) : Int), ((s + 2 * j + 1 : Nat) : Int)⟩
theorem nmMarks_len (s n : Nat) : (nmMarks s n).length = n := by simp [nmMarks]
theorem nmMarks_get (s n j : Nat) (h : j < n) : (nmMarks s n).getD j .none = ⟨mk ((s + 2 * j : Nat) : Int), ((s + 2 * j + 1 : Nat) : Int)⟩ := by simp [nmMarks, h]
theorem nmMark_step (s : Nat) (l : List Nm) (k : Nat) (h : k < l.length) :
    ((nmCells (nmMarks s k ++ l.drop k)).set (k * 2) (.string (mk ((s + 2 * k : Nat) : Int)))).set (k * 2 + 1) (.int .i64 ((s + 2 * k + 1 : Nat) : Int)) = nmCells (nmMarks s (k + 1) ++ l.drop (k + 1)) := by
  have e : l.drop k = l[k] :: l.drop (k + 1) := List.drop_eq_getElem_cons h
  have e2 : nmMarks s (k + 1) = nmMarks s k ++ [⟨mk ((s + 2 * k : Nat) : Int), ((s + 2 * k + 1 : Nat) : Int)⟩] := by simp [nmMarks, List.range_succ]
  have hl : (nmCells (nmMarks s k)).length = k * 2 := by rw [nmCells_len, nmMarks_len]
  have e3 : ∀ (x : Nm) (r : List Nm), nmCells (nmMarks s k ++ x :: r) = nmCells (nmMarks s k) ++ (.string x.text :: .int .i64 x.at_ :: nmCells r) := by
    intro x r
    simp only [nmCells, List.flatMap_append, List.flatMap_cons, Nm.cells, List.cons_append, List.nil_append]
  rw [e, e2, List.append_assoc, List.singleton_append, e3, e3, List.set_append_right _ _ (by omega), hl, Nat.sub_self, List.set_cons_zero, List.set_append_right _ _ (by omega), hl, Nat.add_sub_cancel_left, List.set_cons_succ, List.set_cons_zero]
end Go.Proofs.YtgenojpdjplccaaDoor.Im
namespace Go.Proofs.YtgenojpdjplccaaDoor.Im
open Go.RowKit Pl Ft Mm In C2

def inImg (vc vd vn : Value) (g : Nat) : Prop := vc.ownBlock = some g ∨ vd.ownBlock = some g ∨ vn.ownBlock = some g
def marked (m : Img) : Img := ⟨upFrom ((1 : Nat) : Int) m.code.length, m.entry, m.room, upFrom ((1 + m.code.length : Nat) : Int) m.data.length, nmMarks (1 + m.code.length + m.data.length) m.names.length⟩
def markEnd (m : Img) : Nat := 1 + m.code.length + m.data.length + 2 * m.names.length
theorem mul_marked (m : Img) : (marked m).code.length = m.code.length ∧ (marked m).data.length = m.data.length ∧ (marked m).names.length = m.names.length :=
  ⟨upFrom_len _ _, upFrom_len _ _, nmMarks_len _ _⟩
end Go.Proofs.YtgenojpdjplccaaDoor.Im
