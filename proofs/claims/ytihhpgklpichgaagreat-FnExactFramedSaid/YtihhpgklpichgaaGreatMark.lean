/- The laws' own markText: the text of a number; no program's part is spoken of here but the law's · The laws' own marks: markIntS and heldIntS from any number on, markNameS, heldNameS · The laws' own marks of an image: markImage, heldImage. -/
import Derived.Test.YtihhpgklpichgaaGreatImg
import Derived.Laws.IdiomStrings
import Derived.Laws.Concat
import Derived.Test.YtihhpgklpichgaaGreatHarn
set_option linter.unusedSimpArgs false
set_option linter.unusedVariables false
namespace Go.Proofs.YtihhpgklpichgaaGreat.Im
open Go.RowKit Pl Ft Mm In C2

def digs : Nat → Nat → ByteArray → ByteArray
  | 0, _, acc => acc
  | f + 1, n, acc => if n = 0 then acc else digs f (n / 10) (⟨#[UInt8.ofNat (48 + n % 10)]⟩ ++ acc)
def mk (k : Int) : ByteArray := if k ≤ 0 then ⟨#[109, 48]⟩ else ⟨#[109]⟩ ++ digs k.toNat k.toNat ⟨#[]⟩
theorem digs_zero (f : Nat) (acc : ByteArray) : digs f 0 acc = acc := by cases f <;> simp [digs]
theorem digs_step (f n : Nat) (acc : ByteArray) (h : 0 < n) : digs (f + 1) n acc = digs f (n / 10) (⟨#[UInt8.ofNat (48 + n % 10)]⟩ ++ acc) := by
  rw [digs, if_neg (by omega)]
theorem mk_pos (k : Nat) (h : 0 < k) : mk (k : Int) = ⟨#[109]⟩ ++ digs k k ⟨#[]⟩ := by
  unfold mk
  rw [if_neg (by omega), Int.toNat_natCast]
theorem one_size (b : UInt8) (acc : ByteArray) : ((⟨#[b]⟩ : ByteArray) ++ acc).size = acc.size + 1 := by
  rw [ByteArray.size_append]
  show 1 + _ = _
  omega
theorem conv_one (w : World) (x : Nat) (hx : x < 256) :
    (convert 68 9 (.slice (some ⟨w.heap.size, 0, none⟩) 1 1)).run Tryz.prog (w.alloc (.cells #[.int .u8 (x : Int)] 5)) = .ok (.string ⟨#[UInt8.ofNat x]⟩) (w.alloc (.cells #[.int .u8 (x : Int)] 5)) := by
  have h := run_convert_bytes_back (P := Tryz.prog) (w.alloc (.cells #[.int .u8 (x : Int)] 5)) 68 9 5 ⟨w.heap.size, 0, none⟩ 1 [UInt8.ofNat x] Tryz.underlying68 Tryz.underlying5 Tryz.underlying9 (fun j hj => by
    have hj0 : j = 0 := by simpa using hj
    subst hj0
    have e : ((UInt8.ofNat x).toNat : Int) = (x : Int) := by simp; omega
    simp only [List.getElem_cons_zero]
    rw [e]
    exact new_cells w #[.int .u8 (x : Int)] _ _ rfl 0 _ rfl)
  exact h
theorem add_one (w : World) (x : Nat) (acc : ByteArray) (h : acc.size ≤ 4611686018427387904) : (Op.stringOp .add ⟨#[UInt8.ofNat x]⟩ acc).run Tryz.prog w = .ok (.string (⟨#[UInt8.ofNat x]⟩ ++ acc)) w :=
  run_string_add_sum w _ _ (by
    have : (⟨#[UInt8.ofNat x]⟩ : ByteArray).size = 1 := rfl
    omega)
set_option maxHeartbeats 1000000 in
theorem markText_c (k : Nat) (w : World) (hk0 : 0 < k) (hk : k ≤ 4611686018427387900) :
    Calls Tryz.prog 95 #[.int .i64 k] w fun e w' => e = .returned (.string (mk k)) ∧ Below w.heap.size w w' := by
  have HMk := hid (mk_pos k hk0)
  go_enter Tryz.func95, Tryz.ntmps95
  go_wp2_with fail
  go_loopw [0, 3] (fun x s wr => ∃ (f n : Nat) (acc : ByteArray), x = .int .i64 n ∧ s = .string acc ∧ digs f n acc = digs k k ⟨#[]⟩ ∧ n ≤ f ∧ f ≤ k ∧ acc.size + n ≤ k ∧ Below w.heap.size w wr) (fun x _ _ => (intOf x).toNat)
  case atStart => exact ⟨k, k, ⟨#[]⟩, rfl, rfl, rfl, by omega, by omega, by show 0 + k ≤ k; omega, Below.refl _ _⟩
  case round =>
    obtain ⟨f, n, acc, rfl, rfl, hd, hnf, hfk, hsz, hbel⟩ := hrel
    have HD := hid hd
    have HBe := hid hbel
    have hz := hbel.size
    clear hd hbel
    by_cases hn : 0 < n
    · obtain ⟨f', rfl⟩ : ∃ f', f = f' + 1 := ⟨f - 1, by omega⟩
      have hc := conv_one wr (48 + n % 10) (by omega)
      have ha := add_one (wr.alloc (.cells #[.int .u8 ((48 + n % 10 : Nat) : Int)] 5)) (48 + n % 10) acc (by omega)
      have e : ((48 + n % 10 : Nat) : Int) = 48 + (n : Int) % 10 := by omega
      rw [e] at hc ha
      clear e
      have hstep := (digs_step f' n acc hn).symm.trans HD.out
      obtain ⟨b, hb⟩ : ∃ b, UInt8.ofNat (48 + n % 10) = b := ⟨_, rfl⟩
      rw [hb] at hc ha hstep
      have HStep := hid hstep
      have HSz := hid (one_size b acc)
      clear hb hstep
      go_wp2_with fail
      go_roundw
      case rel => exact ⟨f', n / 10, ⟨#[b]⟩ ++ acc, by go_num, rfl, HStep.out, by omega, by omega, by rw [HSz.out]; omega, HBe.out.alloc (by omega) _⟩
      case measure => simp [intOf]; omega
    · have ha : (Op.stringOp .add ⟨#[109]⟩ acc).run Tryz.prog wr = .ok (.string (⟨#[109]⟩ ++ acc)) wr := run_string_add_sum wr _ _ (by
        have : (⟨#[109]⟩ : ByteArray).size = 1 := rfl
        omega)
      go_wp2_with fail
      go_ret
      obtain rfl : n = 0 := by omega
      exact ⟨ret_eq (congrArg Value.string (by rw [HMk.out, ← HD.out, digs_zero])), HBe.out⟩
end Go.Proofs.YtihhpgklpichgaaGreat.Im
namespace Go.Proofs.YtihhpgklpichgaaGreat.Im
open Go.RowKit Pl Ft Mm In C2

/-- The world w' is w but for new blocks and for the blocks that p tells. -/
structure Only (p : Nat → Prop) (w w' : World) : Prop where
  os : w'.os = w.os
  tape : w'.tape = w.tape
  output : w'.output = w.output
  size : w.heap.size ≤ w'.heap.size
  block : ∀ k, k < w.heap.size → ¬ p k → w'.heap[k]? = w.heap[k]?
theorem Only.refl (p : Nat → Prop) (w : World) : Only p w w := ⟨rfl, rfl, rfl, Nat.le_refl _, fun _ _ _ => rfl⟩
theorem Only.trans {p : Nat → Prop} {a b c : World} (h : Only p a b) (k : Only p b c) : Only p a c :=
  ⟨k.os.trans h.os, k.tape.trans h.tape, k.output.trans h.output, Nat.le_trans h.size k.size, fun i hi hn => (k.block i (Nat.lt_of_lt_of_le hi h.size) hn).trans (h.block i hi hn)⟩
theorem Only.mono {p q : Nat → Prop} {a b : World} (h : Only p a b) (hpq : ∀ k, p k → q k) : Only q a b :=
  ⟨h.os, h.tape, h.output, h.size, fun i hi hn => h.block i hi (fun hp => hn (hpq i hp))⟩
theorem Only.of_below {p : Nat → Prop} {a b : World} (h : Below a.heap.size a b) : Only p a b :=
  ⟨h.os, h.tape, h.output, h.size, fun i hi _ => h.block i hi⟩
theorem Only.below {p : Nat → Prop} {B : Nat} {a b : World} (h : Only p a b) (hB : B ≤ a.heap.size) (hp : ∀ k, p k → B ≤ k) : Below B a b :=
  ⟨h.os, h.tape, h.output, h.size, fun i hi => h.block i (by omega) (fun hpi => by have := hp i hpi; omega)⟩
theorem Only.setCell {p : Nat → Prop} {a b : World} (h : Only p a b) {g : Nat} (hp : p g) (o : Nat) (u : Value) : Only p a (b.setCell ⟨g, o, none⟩ u) :=
  h.trans ⟨rfl, rfl, rfl, by simp [World.setCell], fun k _ hn => Below.heap_setCell _ _ _ _ (fun e => hn (by simp at e; rw [e]; exact hp))⟩
theorem Only.fresh {p : Nat → Prop} {a b : World} (h : Only p a b) {g : Nat} (hg : a.heap.size ≤ g) (o : Nat) (u : Value) : Only p a (b.setCell ⟨g, o, none⟩ u) :=
  ⟨h.os, h.tape, h.output, by have := h.size; simpa [World.setCell] using this, fun k hk hn => (Below.heap_setCell _ _ _ _ (by simp; omega)).trans (h.block k hk hn)⟩
theorem own_only {p : Nat → Prop} {w w' : World} {base : Nat} {e : TypeId} {size : Nat} {v : Value} {n : Nat} {xs : List Value} (h : w.ownsRow base e size v n xs) (hv : ∀ g, v.ownBlock = some g → ¬ p g) (hb : Only p w w') : w'.ownsRow base e size v n xs := by
  refine ⟨h.1, ?_⟩
  rcases h.2 with h0 | ⟨g, cap, cur, rfl, hg, hr, hrest⟩
  · exact .inl h0
  · exact .inr ⟨g, cap, cur, rfl, hg, (hb.block g (Array.getElem?_eq_some_iff.1 hr).1 (hv g rfl)).trans hr, hrest⟩
theorem row_only {p : Nat → Prop} {w w' : World} {g : Nat} {t : TypeId} {cs : Array Value} (h : Row w g t cs) (hg : ¬ p g) (hb : Only p w w') : Row w' g t cs := (hb.block g h.lt hg).trans h
/-- Rows of different element types lie in different blocks. -/
theorem own_apart {w : World} {b1 b2 : Nat} {e1 e2 : TypeId} {s1 s2 : Nat} {v1 v2 : Value} {n1 n2 : Nat} {xs ys : List Value} (h1 : w.ownsRow b1 e1 s1 v1 n1 xs) (h2 : w.ownsRow b2 e2 s2 v2 n2 ys) (hne : e1 ≠ e2) (g : Nat) (hg : v1.ownBlock = some g) : v2.ownBlock ≠ some g := by
  intro hg2
  rcases h1.2 with ⟨rfl, _⟩ | ⟨g1, cap, cur, rfl, _, hr, _⟩
  · cases hg
  rcases h2.2 with ⟨rfl, _⟩ | ⟨g2, cap2, cur2, rfl, _, hr2, _⟩
  · cases hg2
  simp only [Value.ownBlock, Option.some.injEq] at hg hg2
  subst hg
  subst hg2
  rw [hr] at hr2
  simp only [Option.some.injEq, Obj.cells.injEq] at hr2
  exact hne hr2.2.1
set_option maxHeartbeats 1000000 in
theorem markIntS_k (B s : Nat) (xs : List Int) (v : Value) (w : World) (hown : w.ownsRow B 3 1 v xs.length (ints xs)) (hl : xs.length ≤ 1048576) (hs : s ≤ 16777216) :
    Calls Tryz.prog 20 #[v, .int .i64 s] w fun e w' => e = .returned (.int .i64 ((s + xs.length : Nat) : Int)) ∧ w'.ownsRow B 3 1 v xs.length (ints (upFrom s xs.length)) ∧ Only (fun g => v.ownBlock = some g) w w' := by
  obtain ⟨va, cap, rfl⟩ := own_slice hown
  have HO := hid hown
  clear hown
  go_enter Tryz.func20, Tryz.ntmps20
  go_wp2
  go_loopw [1, 5] (fun y c wr => ∃ k : Nat, c = .int .i64 k ∧ y = .int .i64 (s + k) ∧ k ≤ xs.length ∧ wr.ownsRow B 3 1 (.slice va xs.length cap) xs.length (ints (upFrom s k ++ xs.drop k)) ∧ Only (fun g => (Value.slice va xs.length cap).ownBlock = some g) w wr) (fun _ c _ => xs.length - (intOf c).toNat)
  case atStart => exact ⟨0, rfl, by simp, by omega, by simpa [upFrom] using HO.out, Only.refl _ _⟩
  case round =>
    obtain ⟨k, rfl, rfl, hk, hown, hbel⟩ := hrel
    by_cases hlt : k < xs.length
    · obtain ⟨g, cap', hv, hg1, hg2⟩ := own_addr hown (by omega)
      have ha : va = some ⟨g, 0, none⟩ := by simp at hv; exact hv.1
      subst ha
      have hcell := hown.cellAt k (by omega)
      have hsome : ∃ u, (ints (upFrom s k ++ xs.drop k))[k]? = some u := by
        have hlen : k < (ints (upFrom s k ++ xs.drop k)).length := by simp [ints, upFrom]; omega
        exact ⟨_, List.getElem?_eq_getElem hlen⟩
      obtain ⟨u, hu⟩ := hsome
      rw [hu] at hcell
      have hfz := hown.frozenAt k
      have hst := hown.stored k (.int .i64 (s + k))
      rw [mark_step s xs k hlt] at hst
      have HS := hid hst
      have HB2 := hid (hbel.setCell (g := g) rfl k (.int .i64 (s + k)))
      clear hst hown hbel hu hv
      go_wp2_with fail
      go_roundw
      case rel => exact ⟨k + 1, by go_num, by go_num, by omega, HS.out.1, HB2.out⟩
      case measure => simp [intOf]; omega
    · obtain rfl : k = xs.length := by omega
      have HO2 := hid hown
      have HB2 := hid hbel
      clear hown hbel
      go_wp2_with fail
      go_ret
      exact ⟨int_eq (by omega), by simpa using HO2.out, HB2.out⟩
set_option maxHeartbeats 1000000 in
theorem heldIntS_k (s n : Nat) (v : Value) (w : World) (ha : Rd w v (upFrom s n)) (hl : n ≤ 1048576) (hs : s ≤ 16777216) :
    Calls Tryz.prog 21 #[v, .int .i64 s] w fun e w' => e = .returned (.int .i64 ((s + n : Nat) : Int)) ∧ w = w' := by
  obtain ⟨a, ca, rfl, ha⟩ := ha
  rw [upFrom_len]
  have HA := hid ha
  clear ha
  go_enter Tryz.func21, Tryz.ntmps21
  go_wp2
  go_loop [1, 5] (fun y c => ∃ k : Nat, c = .int .i64 k ∧ y = .int .i64 (s + k) ∧ k ≤ n) (fun _ c => n - (intOf c).toNat)
  case atStart => exact ⟨0, rfl, by simp, by omega⟩
  case round =>
    obtain ⟨k, rfl, rfl, hk⟩ := hrel
    by_cases hlt : k < n
    · rcases HA.out with h | ⟨g, o, rfl, hg, hc⟩
      · have := upFrom_len s n; rw [h] at this; simp at this; omega
      have q1 := hc k (by rw [upFrom_len]; exact hlt)
      rw [upFrom_get s n k hlt] at q1
      clear hc
      go_wp2_with fail
      go_round
      case rel => exact ⟨k + 1, by go_num, by go_num, by omega⟩
      case measure => simp [intOf]; omega
    · obtain rfl : k = n := by omega
      go_wp2_with fail
      go_ret
      exact ⟨int_eq (by omega), rfl⟩
def nmMarks (s n : Nat) : List Nm := (List.range n).map fun j => ⟨mk ((s + 2 * j : Nat) : Int), ((s + 2 * j + 1 : Nat) : Int)⟩
theorem nmMarks_len (s n : Nat) : (nmMarks s n).length = n := by simp [nmMarks]
theorem nmMarks_get (s n j : Nat) (h : j < n) : (nmMarks s n).getD j .none = ⟨mk ((s + 2 * j : Nat) : Int), ((s + 2 * j + 1 : Nat) : Int)⟩ := by simp [nmMarks, h]
theorem nmMark_step (s : Nat) (l : List Nm) (k : Nat) (h : k < l.length) :
    ((nmCells (nmMarks s k ++ l.drop k)).set (k * 2) (.string (mk ((s + 2 * k : Nat) : Int)))).set (k * 2 + 1) (.int .i64 ((s + 2 * k + 1 : Nat) : Int)) = nmCells (nmMarks s (k + 1) ++ l.drop (k + 1)) := by
  have e : l.drop k = l[k] :: l.drop (k + 1) := List.drop_eq_getElem_cons h
  have e2 : nmMarks s (k + 1) = nmMarks s k ++ [⟨mk ((s + 2 * k : Nat) : Int), ((s + 2 * k + 1 : Nat) : Int)⟩] := by simp [nmMarks, List.range_succ]
  have hl : (nmCells (nmMarks s k)).length = k * 2 := by rw [nmCells_len, nmMarks_len]
  have e3 : ∀ (x : Nm) (r : List Nm), nmCells (nmMarks s k ++ x :: r) = nmCells (nmMarks s k) ++ (.string x.text :: .int .i64 x.at_ :: nmCells r) := by
    intro x r
    simp only [nmCells, List.flatMap_append, List.flatMap_cons, Nm.cells, List.cons_append, List.nil_append]
  rw [e, e2, List.append_assoc, List.singleton_append, e3, e3, List.set_append_right _ _ (by omega), hl, Nat.sub_self, List.set_cons_zero, List.set_append_right _ _ (by omega), hl, Nat.add_sub_cancel_left, List.set_cons_succ, List.set_cons_zero]
set_option maxHeartbeats 1000000 in
theorem markNameS_c (B s : Nat) (l : List Nm) (v : Value) (w : World) (hown : w.ownsRow B 105 2 v l.length (nmCells l)) (hl : l.length ≤ 1048576) (hs0 : 0 < s) (hs : s ≤ 16777216) :
    Calls Tryz.prog 52 #[v, .int .i64 s] w fun e w' => e = .returned (.int .i64 ((s + 2 * l.length : Nat) : Int)) ∧ w'.ownsRow B 105 2 v l.length (nmCells (nmMarks s l.length)) ∧ Only (fun g => v.ownBlock = some g) w w' := by
  obtain ⟨va, cap, rfl⟩ := own_slice hown
  have HO := hid hown
  clear hown
  go_enter Tryz.func52, Tryz.ntmps52
  go_wp2
  go_loopw [1, 5] (fun y c wr => ∃ k q : Nat, c = .int .i64 k ∧ y = .int .i64 q ∧ q = s + 2 * k ∧ k ≤ l.length ∧ wr.ownsRow B 105 2 (.slice va l.length cap) l.length (nmCells (nmMarks s k ++ l.drop k)) ∧ Only (fun g => (Value.slice va l.length cap).ownBlock = some g) w wr) (fun _ c _ => l.length - (intOf c).toNat)
  case atStart => exact ⟨0, s, rfl, rfl, by omega, by omega, by simpa [nmMarks] using HO.out, Only.refl _ _⟩
  case round =>
    obtain ⟨k, q, rfl, rfl, hq, hk, hown, hbel⟩ := hrel
    by_cases hlt : k < l.length
    · obtain ⟨g, cap', hv, hg1, hg2⟩ := own_addr hown (by omega)
      have ha : va = some ⟨g, 0, none⟩ := by simp at hv; exact hv.1
      subst ha
      have HOw := hid hown
      have HBe := hid hbel
      have hq1 : q ≤ 18874368 := by omega
      have hq0 : 0 < q := by omega
      have HQ := hid hq
      clear hown hbel hv hq
      go_wp2_with fail
      refine (markText_c q _ hq0 (by omega)).mono ?_
      rintro e w2 ⟨rfl, hb2⟩
      have HO2 := hid (own_on HOw.out hb2)
      have HB2 := hid (HBe.out.trans (.of_below hb2))
      have hz2 := hb2.size
      clear hb2
      obtain ⟨t, ht⟩ : ∃ t, mk (q : Int) = t := ⟨_, rfl⟩
      have HT := hid ht
      rw [ht]
      clear ht
      have hlen : k * 2 + 1 < (nmCells (nmMarks s k ++ l.drop k)).length := by rw [nmCells_len, List.length_append, nmMarks_len, List.length_drop]; omega
      have hc0 := HO2.out.cellAt (k * 2) (by omega)
      have hc1 := HO2.out.cellAt (k * 2 + 1) (by omega)
      rw [List.getElem?_eq_getElem (by omega)] at hc0
      rw [List.getElem?_eq_getElem hlen] at hc1
      have hf0 := HO2.out.frozenAt (k * 2)
      have hf1 := HO2.out.frozenAt (k * 2 + 1)
      have hst := ((HO2.out.stored (k * 2) (.string t)).1.stored (k * 2 + 1) (.int .i64 ((q : Int) + 1))).1
      have hstep := nmMark_step s l k hlt
      rw [← HQ.out, HT.out, show ((q + 1 : Nat) : Int) = (q : Int) + 1 by omega] at hstep
      rw [hstep] at hst
      have HS := hid hst
      have HB3 := hid ((HB2.out.setCell (g := g) rfl (k * 2) (.string t)).setCell (g := g) rfl (k * 2 + 1) (.int .i64 ((q : Int) + 1)))
      obtain ⟨u0, hu0⟩ : ∃ u, (nmCells (nmMarks s k ++ l.drop k))[k * 2]'(by omega) = u := ⟨_, rfl⟩
      obtain ⟨u1, hu1⟩ : ∃ u, (nmCells (nmMarks s k ++ l.drop k))[k * 2 + 1]'hlen = u := ⟨_, rfl⟩
      rw [hu0] at hc0
      rw [hu1] at hc1
      clear hst hstep hlen hu0 hu1
      go_wp2_with fail
      go_roundw
      case rel => exact ⟨k + 1, q + 1 + 1, by go_num, by go_num, by have := HQ.out; omega, by omega, HS.out, HB3.out⟩
      case measure => simp [intOf]; omega
    · obtain rfl : k = l.length := by omega
      have HO2 := hid hown
      have HB2 := hid hbel
      have HQ := hid hq
      clear hown hbel hq
      go_wp2_with fail
      go_ret
      exact ⟨int_eq (by have := HQ.out; omega), by simpa using HO2.out, HB2.out⟩
end Go.Proofs.YtihhpgklpichgaaGreat.Im
namespace Go.Proofs.YtihhpgklpichgaaGreat.Im
open Go.RowKit Pl Ft Mm In C2

def inImg (vc vd vn : Value) (g : Nat) : Prop := vc.ownBlock = some g ∨ vd.ownBlock = some g ∨ vn.ownBlock = some g
def marked (m : Img) : Img := ⟨upFrom ((1 : Nat) : Int) m.code.length, m.entry, m.room, upFrom ((1 + m.code.length : Nat) : Int) m.data.length, nmMarks (1 + m.code.length + m.data.length) m.names.length⟩
def markEnd (m : Img) : Nat := 1 + m.code.length + m.data.length + 2 * m.names.length
theorem int_ne_name : 3 ≠ 105 := by decide
theorem name_ne_int : 105 ≠ 3 := by decide
theorem img_ne_int : 30 ≠ 3 := by decide
theorem IOwn.lt {w : World} {B : Nat} {vc vd vn : Value} {m : Img} (h : IOwn w B vc vd vn m) (g : Nat) (hg : inImg vc vd vn g) : B ≤ g ∧ g < w.heap.size := by
  rcases hg with hg | hg | hg
  · exact h.c.lt g hg
  · exact h.d.lt g hg
  · exact h.n.lt g hg
set_option maxHeartbeats 1000000 in
theorem markImage_c (m : Img) (B : Nat) (vc vd vn : Value) (w : World) (h : IOwn w B vc vd vn m) (hs : Sm m) :
    Calls Tryz.prog 19 #[imgVal vc vd vn m, .int .i64 1] w fun e w' => e = .returned (.int .i64 (markEnd m)) ∧ IOwn w' B vc vd vn (marked m) ∧ Only (inImg vc vd vn) w w' := by
  have hlc := hs.c
  have hld := hs.d
  have hln := hs.n
  have HO0 := hid (h.on ((Below.refl _ _).alloc (Nat.le_refl _) (.cells #[vc, .int .i64 m.entry, .int .i64 m.room, vd, vn] 30)))
  have HX0 := hid (Row.new w 30 #[vc, .int .i64 m.entry, .int .i64 m.room, vd, vn])
  have HN0 := hid (show Only (inImg vc vd vn) w (w.alloc (.cells #[vc, .int .i64 m.entry, .int .i64 m.room, vd, vn] 30)) from .of_below ((Below.refl _ _).alloc (Nat.le_refl _) _))
  have HLt := hid (fun g hg => (h.lt g hg).2)
  have HNe := hid h.ne
  have HNc := hid (own_apart h.c h.n int_ne_name)
  have HNd := hid (own_apart h.d h.n int_ne_name)
  have hz0 : w.heap.size < (w.alloc (.cells #[vc, .int .i64 m.entry, .int .i64 m.room, vd, vn] 30)).heap.size := by simp
  clear h hs
  unfold imgVal
  go_enter Tryz.func19, Tryz.ntmps19
  go_wp2_with fail
  refine (markIntS_k B 1 m.code vc _ HO0.out.c hlc (by omega)).mono ?_
  rintro e w1 ⟨rfl, hown1, hb1⟩
  have HC1 := hid hown1
  have HD1 := hid (own_only HO0.out.d (fun g hd hc => HNe.out g hc hd) hb1)
  have HM1 := hid (own_only HO0.out.n (fun g hn hc => HNc.out g hc hn) hb1)
  have HX1 := hid (row_only HX0.out (fun hc => by have := HLt.out _ (.inl hc); omega) hb1)
  have HN1 := hid (HN0.out.trans (hb1.mono (fun g hg => .inl hg)))
  have hz1 := hb1.size
  clear hown1 hb1
  obtain ⟨s1, hs1⟩ : ∃ s, 1 + m.code.length = s := ⟨_, rfl⟩
  have HS1 := hid hs1
  have hb1 : s1 ≤ 2097152 := by omega
  have hp1 : 0 < s1 := by omega
  rw [hs1]
  clear hs1
  have x3 := HX1.out.cell 3
  simp at x3
  go_wp2_with fail
  refine (markIntS_k B s1 m.data vd _ HD1.out hld (by omega)).mono ?_
  rintro e w2 ⟨rfl, hown2, hb2⟩
  have HC2 := hid (own_only HC1.out (fun g hc hd => HNe.out g hc hd) hb2)
  have HD2 := hid hown2
  have HM2 := hid (own_only HM1.out (fun g hn hd => HNd.out g hd hn) hb2)
  have HX2 := hid (row_only HX1.out (fun hc => by have := HLt.out _ (.inr (.inl hc)); omega) hb2)
  have HN2 := hid (HN1.out.trans (hb2.mono (fun g hg => .inr (.inl hg))))
  clear hown2 hb2 x3
  obtain ⟨s2, hs2⟩ : ∃ s, s1 + m.data.length = s := ⟨_, rfl⟩
  have HS2 := hid hs2
  have hb2 : s2 ≤ 4194304 := by omega
  have hp2 : 0 < s2 := by omega
  rw [hs2]
  clear hs2
  have x4 := HX2.out.cell 4
  simp at x4
  go_wp2_with fail
  refine (markNameS_c B s2 m.names vn _ HM2.out hln hp2 (by omega)).mono ?_
  rintro e w3 ⟨rfl, hown3, hb3⟩
  have HC3 := hid (own_only HC2.out (fun g hc hn => HNc.out g hc hn) hb3)
  have HD3 := hid (own_only HD2.out (fun g hd hn => HNd.out g hd hn) hb3)
  have HM3 := hid hown3
  have HN3 := hid (HN2.out.trans (hb3.mono (fun g hg => .inr (.inr hg))))
  clear hown3 hb3 x4
  go_wp2_with fail
  go_ret
  refine ⟨int_eq (by have := HS1.out; have := HS2.out; unfold markEnd; omega), ⟨?_, ?_, ?_, HNe.out⟩, HN3.out⟩
  · show w3.ownsRow B 3 1 vc (upFrom _ _).length _
    rw [upFrom_len]
    exact HC3.out
  · show w3.ownsRow B 3 1 vd (upFrom _ _).length (ints (upFrom ((1 + m.code.length : Nat) : Int) m.data.length))
    rw [upFrom_len, HS1.out]
    exact HD3.out
  · show w3.ownsRow B 105 2 vn (nmMarks _ _).length (nmCells (nmMarks (1 + m.code.length + m.data.length) m.names.length))
    rw [nmMarks_len, HS1.out, HS2.out]
    exact HM3.out
theorem mul_marked (m : Img) : (marked m).code.length = m.code.length ∧ (marked m).data.length = m.data.length ∧ (marked m).names.length = m.names.length :=
  ⟨upFrom_len _ _, upFrom_len _ _, nmMarks_len _ _⟩
end Go.Proofs.YtihhpgklpichgaaGreat.Im
