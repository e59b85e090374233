/- Images: when one is an image, and its bytes. No call is spoken of here · Images in memory: what reads as names, and as an image. -/
import Derived.Test.YtgenojpdjplccaaDoorC2h
import Derived.Test.YtgenojpdjplccaaDoorInts
set_option linter.unusedSimpArgs false
set_option linter.unusedVariables false
namespace Go.Proofs.YtgenojpdjplccaaDoor.Im
open Go.RowKit Pl Ft Mm In C2

/-- A name of a place, and an image. -/
structure Nm where
  text : ByteArray
  at_ : Int
structure Img where
  code : List Int
  entry : Int
  room : Int
  data : List Int
  names : List Nm
def Nm.none : Nm := ⟨⟨#[]⟩, 0⟩
def Nm.cells (n : Nm) : List Value := [.string n.text, .int .i64 n.at_]
def small (c : Nat) : Bool := decide (97 ≤ c) && decide (c ≤ 122)
def digit (c : Nat) : Bool := decide (48 ≤ c) && decide (c ≤ 57)
def letterOk (c : Nat) : Bool := small c || digit c
def isName (s : ByteArray) : Bool := decide (1 ≤ s.size) && (decide (s.size ≤ 8) && (small ((letters s).getD 0 0) && (letters s).all letterOk))
theorem letters_at (s : ByteArray) (k : Nat) (h : k < s.size) : (letters s).getD k 0 = s[k].toNat := by
  rw [List.getD_eq_getElem?_getD, List.getElem?_eq_getElem (by rw [letters_len]; exact h), Option.getD_some, letters_get s k h]
theorem isName_size {s : ByteArray} (h : s.size < 1 ∨ 8 < s.size) : isName s = false := by
  unfold isName
  rcases h with h | h
  · rw [decide_eq_false (by omega : ¬ 1 ≤ s.size)]; rfl
  · rw [decide_eq_false (by omega : ¬ s.size ≤ 8)]; simp
theorem isName_first {s : ByteArray} (hs : 0 < s.size) (h : small (s[0].toNat) = false) : isName s = false := by
  unfold isName
  rw [letters_at s 0 hs, h]; simp
theorem isName_at {s : ByteArray} (k : Nat) (hk : k < s.size) (h : letterOk (s[k].toNat) = false) : isName s = false := by
  have : (letters s).all letterOk = false := by
    rw [List.all_eq_false]
    refine ⟨(letters s)[k]'(by rw [letters_len]; exact hk), List.getElem_mem _, ?_⟩
    rw [letters_get s k hk, h]; simp
  unfold isName
  rw [this]; simp
theorem isName_yes {s : ByteArray} (h1 : 1 ≤ s.size) (h8 : s.size ≤ 8) (hf : small (s[0].toNat) = true) (h : ∀ k (hk : k < s.size), letterOk (s[k].toNat) = true) : isName s = true := by
  unfold isName
  rw [decide_eq_true h1, decide_eq_true h8, letters_at s 0 (by omega), hf]
  simp only [Bool.true_and]
  rw [List.all_eq_true]
  intro c hc
  obtain ⟨k, hk, rfl⟩ := List.mem_iff_getElem.1 hc
  rw [letters_len] at hk
  rw [letters_get s k hk]
  exact h k hk
theorem isName_bd {s : ByteArray} (h : isName s = true) : 1 ≤ s.size ∧ s.size ≤ 8 := by
  simp only [isName, Bool.and_eq_true, decide_eq_true_eq] at h
  exact ⟨h.1, h.2.1⟩
/-- Name number k of a list is well there. -/
def nmAsc (l : List Nm) (k : Nat) : Bool := k == 0 || decide ((l.getD (k - 1) .none).at_ < (l.getD k .none).at_)
def nmNew (l : List Nm) (k : Nat) : Bool := (l.take k).all fun m => !(m.text.toList == (l.getD k .none).text.toList)
def nmOk (l : List Nm) (long : Nat) (k : Nat) : Bool :=
  isName (l.getD k .none).text && ((decide (0 ≤ (l.getD k .none).at_) && decide ((l.getD k .none).at_ < long)) && (nmAsc l k && nmNew l k))
def namesOk (l : List Nm) (long : Nat) : Bool := decide (l.length ≤ 12) && (List.range l.length).all (nmOk l long)
theorem namesOk_no {l : List Nm} {long : Nat} (k : Nat) (hk : k < l.length) (h : nmOk l long k = false) : namesOk l long = false := by
  have : (List.range l.length).all (nmOk l long) = false := by
    rw [List.all_eq_false]
    exact ⟨k, List.mem_range.2 hk, by rw [h]; simp⟩
  unfold namesOk
  rw [this]; simp
theorem namesOk_long {l : List Nm} {long : Nat} (h : 12 < l.length) : namesOk l long = false := by
  unfold namesOk
  rw [decide_eq_false (by omega)]; rfl
theorem namesOk_yes {l : List Nm} {long : Nat} (hl : l.length ≤ 12) (h : ∀ k, k < l.length → nmOk l long k = true) : namesOk l long = true := by
  unfold namesOk
  rw [decide_eq_true hl, Bool.true_and, List.all_eq_true]
  intro k hk
  exact h k (List.mem_range.1 hk)
theorem namesOk_at {l : List Nm} {long : Nat} (h : namesOk l long = true) : l.length ≤ 12 ∧ ∀ k, k < l.length → nmOk l long k = true := by
  simp only [namesOk, Bool.and_eq_true, decide_eq_true_eq, List.all_eq_true] at h
  exact ⟨h.1, fun k hk => h.2 k (List.mem_range.2 hk)⟩
theorem nmOk_bd {l : List Nm} {long k : Nat} (h : nmOk l long k = true) : isName (l.getD k .none).text = true ∧ 0 ≤ (l.getD k .none).at_ ∧ (l.getD k .none).at_ < long := by
  simp only [nmOk, Bool.and_eq_true, decide_eq_true_eq] at h
  exact ⟨h.1, h.2.1.1, h.2.1.2⟩
def codeOk (m : Img) : Bool := decide (0 < m.code.length) && (isCode m.code && (decide (0 ≤ m.entry) && decide (m.entry < m.code.length)))
def memOk (m : Img) : Bool := decide (0 ≤ m.room) && (decide (m.room ≤ 64) && (decide ((m.data.length : Int) ≤ m.room) && m.data.all isByte))
def imageOk (m : Img) : Bool := codeOk m && (memOk m && namesOk m.names m.code.length)
theorem isCode_len {xs : List Int} (h : isCode xs = true) : xs.length ≤ 2000 ∧ xs.all isByte = true := by
  simpa [isCode] using h
structure ImgBd (m : Img) : Prop where
  c0 : 0 < m.code.length
  c1 : m.code.length ≤ 2000
  cb : m.code.all isByte = true
  e0 : 0 ≤ m.entry
  e1 : m.entry < m.code.length
  r0 : 0 ≤ m.room
  r1 : m.room ≤ 64
  d1 : (m.data.length : Int) ≤ m.room
  db : m.data.all isByte = true
  n1 : m.names.length ≤ 12
  nm : ∀ k, k < m.names.length → nmOk m.names m.code.length k = true
theorem imageOk_bd {m : Img} (h : imageOk m = true) : ImgBd m := by
  simp only [imageOk, codeOk, memOk, Bool.and_eq_true, decide_eq_true_eq] at h
  obtain ⟨⟨h1, h2, h3, h4⟩, ⟨h5, h6, h7, h8⟩, h9⟩ := h
  have hc := isCode_len h2
  have hn := namesOk_at h9
  exact ⟨h1, hc.1, hc.2, h3, h4, h5, h6, h7, h8, hn.1, hn.2⟩
/-- The bytes of a name, and of an image. -/
def textInts (s : ByteArray) : List Int := (letters s).map fun (c : Nat) => (c : Int)
theorem textInts_len (s : ByteArray) : (textInts s).length = s.size := by rw [textInts, List.length_map, letters_len]
def nmBytes (n : Nm) : List Int := (n.text.size : Int) :: (textInts n.text ++ bytesOf n.at_ 2)
theorem nmBytes_len (n : Nm) : (nmBytes n).length = n.text.size + 3 := by
  simp only [nmBytes, List.length_cons, List.length_append, textInts_len, bytesOf_len]
def namesBytes (l : List Nm) : List Int := l.flatMap nmBytes
theorem namesBytes_succ (l : List Nm) (k : Nat) (h : k < l.length) : namesBytes (l.take (k + 1)) = namesBytes (l.take k) ++ nmBytes (l.getD k .none) := by
  have e : l.getD k .none = l[k] := by simp [h]
  rw [e]
  unfold namesBytes
  rw [List.take_succ_eq_append_getElem h, List.flatMap_append, List.flatMap_singleton]
/-- The sum of the first k, each times its place from 1 on. -/
def sumTo (l : List Int) : Nat → Int
  | 0 => 0
  | k + 1 => sumTo l k + (k + 1) * l.getD k 0
def chk (l : List Int) : Int := sumTo l l.length % 251
def imgFront (m : Img) : List Int := [108, 99] ++ bytesOf m.code.length 2 ++ bytesOf m.entry 2 ++ [m.room, (m.data.length : Int), (m.names.length : Int)]
def imgHead (m : Img) : List Int := imgFront m ++ namesBytes m.names ++ m.code ++ m.data
def imgBytes (m : Img) : List Int := imgHead m ++ [chk (imgHead m)]
theorem isByte_iff {x : Int} : isByte x = true ↔ 0 ≤ x ∧ x ≤ 255 := by simp [isByte, inR, lo, hi]
theorem sumTo_bd (l : List Int) (hb : l.all isByte = true) : ∀ k, k ≤ l.length → 0 ≤ sumTo l k ∧ sumTo l k ≤ 255 * (k * (k + 1)) := by
  intro k
  induction k with
  | zero => intro _; simp [sumTo]
  | succ k ih =>
    intro hk
    obtain ⟨h0, h1⟩ := ih (by omega)
    have hx := isByte_iff.1 (List.all_eq_true.1 hb (l.getD k 0) (by simp [show k < l.length by omega]))
    have h2 : 0 ≤ ((k : Int) + 1) * l.getD k 0 := Int.mul_nonneg (by omega) hx.1
    have h3 : ((k : Int) + 1) * l.getD k 0 ≤ ((k : Int) + 1) * 255 := Int.mul_le_mul_of_nonneg_left hx.2 (by omega)
    have e1 : (k : Int) * (k + 1) = k * k + k := by rw [Int.mul_add, Int.mul_one]
    have e2 : ((k + 1 : Nat) : Int) * ((k + 1 : Nat) + 1) = k * k + 3 * k + 2 := by
      have : ((k + 1 : Nat) : Int) = (k : Int) + 1 := by omega
      rw [this, Int.add_mul, Int.mul_add, Int.mul_add]
      omega
    simp only [sumTo]
    rw [e1] at h1
    rw [e2]
    omega
/-- The model takes the sum modulo 251 at each step. -/
theorem mod_step (a x : Int) : (a % 251 + x) % 251 = (a + x) % 251 := by omega
theorem front_len (m : Img) : (imgFront m).length = 9 := by simp [imgFront, bytesOf_len]
theorem names_len (l : List Nm) (hl : ∀ n ∈ l, n.text.size ≤ 8) : (namesBytes l).length ≤ 11 * l.length := by
  induction l with
  | nil => simp [namesBytes]
  | cons n l ih =>
    have h := ih (fun m hm => hl m (List.mem_cons_of_mem _ hm))
    have h2 := hl n (List.mem_cons_self ..)
    simp only [namesBytes, List.flatMap_cons, List.length_append, nmBytes_len, List.length_cons] at h ⊢
    omega
theorem names_take_len (l : List Nm) (k : Nat) (hl : ∀ n ∈ l, n.text.size ≤ 8) : (namesBytes (l.take k)).length ≤ 11 * k := by
  have h := names_len (l.take k) (fun n hn => hl n (List.mem_of_mem_take hn))
  have := List.length_take_le k l
  omega
theorem ImgBd.text {m : Img} (h : ImgBd m) : ∀ n ∈ m.names, isName n.text = true := by
  intro n hn
  obtain ⟨k, hk, rfl⟩ := List.mem_iff_getElem.1 hn
  have := (nmOk_bd (h.nm k hk)).1
  simpa [hk] using this
theorem ImgBd.text8 {m : Img} (h : ImgBd m) : ∀ n ∈ m.names, n.text.size ≤ 8 := fun n hn => (isName_bd (h.text n hn)).2
theorem ImgBd.at0 {m : Img} (h : ImgBd m) (k : Nat) (hk : k < m.names.length) : 0 ≤ (m.names.getD k .none).at_ ∧ (m.names.getD k .none).at_ < 2000 := by
  have := nmOk_bd (h.nm k hk)
  have := h.c1
  omega
theorem head_len {m : Img} (h : ImgBd m) : (imgHead m).length ≤ 2205 := by
  have h1 := names_len m.names h.text8
  have h2 := h.n1
  have h3 := h.c1
  have h4 := h.d1
  have h5 := h.r1
  simp only [imgHead, List.length_append, front_len]
  omega
theorem bytesOf_byte (x : Int) (k : Nat) : (bytesOf x k).all isByte = true := by
  rw [List.all_eq_true]
  intro y hy
  obtain ⟨j, _, rfl⟩ := List.mem_map.1 hy
  exact isByte_iff.2 (by omega)
theorem textInts_byte (s : ByteArray) : (textInts s).all isByte = true := by
  rw [List.all_eq_true]
  intro y hy
  obtain ⟨c, hc, rfl⟩ := List.mem_map.1 hy
  obtain ⟨u, _, rfl⟩ := List.mem_map.1 hc
  have := u.toNat_lt
  exact isByte_iff.2 (by omega)
theorem names_byte (l : List Nm) (hl : ∀ n ∈ l, n.text.size ≤ 8) : (namesBytes l).all isByte = true := by
  rw [List.all_eq_true]
  intro y hy
  obtain ⟨n, hn, hy⟩ := List.mem_flatMap.1 hy
  have h8 := hl n hn
  rcases List.mem_cons.1 hy with rfl | hy
  · exact isByte_iff.2 (by omega)
  rcases List.mem_append.1 hy with hy | hy
  · exact List.all_eq_true.1 (textInts_byte _) y hy
  · exact List.all_eq_true.1 (bytesOf_byte _ _) y hy
theorem front_byte {m : Img} (h : ImgBd m) : (imgFront m).all isByte = true := by
  have h2 := h.n1
  have h4 := h.d1
  have h5 := h.r1
  have h6 := h.r0
  simp only [imgFront, List.all_append, bytesOf_byte, Bool.and_true, Bool.true_and, List.all_cons, List.all_nil, Bool.and_eq_true]
  exact ⟨⟨by decide, by decide⟩, isByte_iff.2 (by omega), isByte_iff.2 (by omega), isByte_iff.2 (by omega)⟩
theorem head_byte {m : Img} (h : ImgBd m) : (imgHead m).all isByte = true := by
  simp only [imgHead, List.all_append, front_byte h, names_byte _ h.text8, h.cb, h.db, Bool.and_self]
theorem chk_bd (l : List Int) : 0 ≤ chk l ∧ chk l ≤ 250 := by unfold chk; omega
theorem imgBytes_len {m : Img} (h : ImgBd m) : (imgBytes m).length ≤ 2206 := by
  have := head_len h
  simp only [imgBytes, List.length_append, List.length_cons, List.length_nil]
  omega
theorem imgBytes_byte {m : Img} (h : ImgBd m) : (imgBytes m).all isByte = true := by
  have := chk_bd (imgHead m)
  simp only [imgBytes, List.all_append, head_byte h, List.all_cons, List.all_nil, Bool.and_true, Bool.true_and]
  exact isByte_iff.2 (by omega)
end Go.Proofs.YtgenojpdjplccaaDoor.Im
namespace Go.Proofs.YtgenojpdjplccaaDoor.Im
open Go.RowKit Pl Ft Mm In C2

/-- The slice v reads as these names. -/
def NRd (w : World) (v : Value) (l : List Nm) : Prop :=
  ∃ a cap, v = .slice a l.length cap ∧ (l = [] ∨ ∃ g o, a = some ⟨g, o, none⟩ ∧ g < w.heap.size ∧ ∀ j, j < l.length → w.cell? ⟨g, o + j * 2, none⟩ = some (.string (l.getD j .none).text) ∧ w.cell? ⟨g, o + j * 2 + 1, none⟩ = some (.int .i64 (l.getD j .none).at_))
theorem NRd.nil (w : World) (cap : Nat) : NRd w (.slice none 0 cap) [] := ⟨none, cap, rfl, .inl rfl⟩
theorem NRd.on {w w' : World} {v : Value} {l : List Nm} (h : NRd w v l) (hb : Below w.heap.size w w') : NRd w' v l := by
  obtain ⟨a, cap, e, h⟩ := h
  refine ⟨a, cap, e, ?_⟩
  rcases h with h | ⟨g, o, ea, hg, hc⟩
  · exact .inl h
  · refine .inr ⟨g, o, ea, Nat.lt_of_lt_of_le hg hb.size, fun j hj => ?_⟩
    rw [hb.cell (p := ⟨g, o + j * 2, none⟩) hg, hb.cell (p := ⟨g, o + j * 2 + 1, none⟩) hg]
    exact hc j hj
theorem NRd.alloc {w : World} {v : Value} {l : List Nm} (h : NRd w v l) (o : Obj) : NRd (w.alloc o) v l := h.on ((Below.refl _ _).alloc (Nat.le_refl _) o)
def nmCells (l : List Nm) : List Value := l.flatMap Nm.cells
theorem nmCells_len (l : List Nm) : (nmCells l).length = l.length * 2 := by
  induction l with
  | nil => rfl
  | cons n l ih =>
    simp only [nmCells, List.flatMap_cons, List.length_append, List.length_cons] at ih ⊢
    simp [Nm.cells] at ih ⊢
    omega
theorem nmCells_get (l : List Nm) (k : Nat) (h : k < l.length) : (nmCells l)[k * 2]? = some (.string (l.getD k .none).text) ∧ (nmCells l)[k * 2 + 1]? = some (.int .i64 (l.getD k .none).at_) := by
  have h0 := flat_get Nm.cells 2 (fun _ => rfl) .none l k 0 h (by decide)
  have h1 := flat_get Nm.cells 2 (fun _ => rfl) .none l k 1 h (by decide)
  exact ⟨h0, h1⟩
theorem NRd.of_own {w : World} {base : Nat} {e : TypeId} {v : Value} {l : List Nm} (h : w.ownsRow base e 2 v l.length (nmCells l)) : NRd w v l := by
  obtain ⟨a, cap, rfl⟩ := own_slice h
  refine ⟨a, cap, rfl, ?_⟩
  by_cases h0 : l = []
  · exact .inl h0
  · have hp : 0 < l.length := List.length_pos_iff.2 h0
    obtain ⟨g, cap', hv, _, hg⟩ := own_addr h hp
    have ha : a = some ⟨g, 0, none⟩ := by simp at hv; exact hv.1
    subst ha
    refine .inr ⟨g, 0, rfl, hg, fun j hj => ?_⟩
    obtain ⟨c0, c1⟩ := nmCells_get l j hj
    have q0 := h.cells (g := g) rfl (j * 2) _ c0
    have q1 := h.cells (g := g) rfl (j * 2 + 1) _ c1
    have e : ∀ n, (⟨g, 0, none⟩ : Addr).add n = ⟨g, n, none⟩ := by intro n; unfold Addr.add; split <;> simp_all
    rw [e] at q0 q1
    rw [Nat.zero_add]
    exact ⟨q0, q1⟩
theorem rd_slice {w : World} {v : Value} {xs : List Int} (h : Rd w v xs) : ∃ a cap, v = .slice a xs.length cap := by obtain ⟨a, cap, e, _⟩ := h; exact ⟨a, cap, e⟩
theorem nrd_slice {w : World} {v : Value} {l : List Nm} (h : NRd w v l) : ∃ a cap, v = .slice a l.length cap := by obtain ⟨a, cap, e, _⟩ := h; exact ⟨a, cap, e⟩
/-- No part is greater than what an argument may be. -/
structure Sm (m : Img) : Prop where
  c : m.code.length ≤ 1048576
  d : m.data.length ≤ 1048576
  n : m.names.length ≤ 1048576
  t : ∀ x ∈ m.names, x.text.size ≤ 1048576
theorem Sm.at_ {m : Img} (h : Sm m) (k : Nat) (hk : k < m.names.length) : (m.names.getD k .none).text.size ≤ 1048576 := h.t _ (by simp [hk])
/-- A slice is no longer than its room. -/
def CapOk (v : Value) : Prop := ∃ a n c, v = .slice a n c ∧ n ≤ c
theorem CapOk.of {a : Option Addr} {n c : Nat} (h : CapOk (.slice a n c)) : n ≤ c := by
  obtain ⟨a', n', c', e, h⟩ := h
  simp only [Value.slice.injEq] at e
  omega
theorem own_cap {w : World} {base : Nat} {e : TypeId} {size : Nat} {v : Value} {n : Nat} {xs : List Value} (h : w.ownsRow base e size v n xs) : CapOk v := by
  rcases h.2 with ⟨rfl, h0⟩ | ⟨g, cap, cur, rfl, _, _, hc, _⟩
  · exact ⟨_, _, _, rfl, Nat.le_refl _⟩
  · exact ⟨_, _, _, rfl, hc⟩
theorem NRd.take {w : World} {g o n c : Nat} {l : List Nm} (hg : g < w.heap.size) (h : ∀ j, j < l.length → w.cell? ⟨g, o + j * 2, none⟩ = some (.string (l.getD j .none).text) ∧ w.cell? ⟨g, o + j * 2 + 1, none⟩ = some (.int .i64 (l.getD j .none).at_)) (hn : n ≤ l.length) : NRd w (.slice (some ⟨g, o, none⟩) n c) (l.take n) := by
  have hl : (l.take n).length = n := by rw [List.length_take]; omega
  refine ⟨some ⟨g, o, none⟩, c, by rw [hl], .inr ⟨g, o, rfl, hg, fun j hj => ?_⟩⟩
  rw [hl] at hj
  have e : (l.take n).getD j .none = l.getD j .none := by
    rw [List.getD_eq_getElem?_getD, List.getD_eq_getElem?_getD, List.getElem?_take_of_lt hj]
  rw [e]
  exact h j (by omega)
/-- The parts of an image as memory has them. -/
structure ICells (w : World) (vc vd vn : Value) (m : Img) : Prop where
  c : Rd w vc m.code
  d : Rd w vd m.data
  n : NRd w vn m.names
  cap : CapOk vn
theorem ICells.on {w w' : World} {vc vd vn : Value} {m : Img} (h : ICells w vc vd vn m) (hb : Below w.heap.size w w') : ICells w' vc vd vn m := ⟨h.c.on hb, h.d.on hb, h.n.on hb, h.cap⟩
theorem ICells.alloc {w : World} {vc vd vn : Value} {m : Img} (h : ICells w vc vd vn m) (o : Obj) : ICells (w.alloc o) vc vd vn m := ⟨h.c.alloc o, h.d.alloc o, h.n.alloc o, h.cap⟩
def imgVal (vc vd vn : Value) (m : Img) : Value := .agg #[vc, .int .i64 m.entry, .int .i64 m.room, vd, vn]
end Go.Proofs.YtgenojpdjplccaaDoor.Im
