/- Reading the bytes of an image: what stands where an image would have its parts; of an image's own bytes it is the image. No call is spoken of here · Whether numbers, or names, are equal: the library's slices.Equal at []int and []Name, and the model's sameInts. -/
import Derived.Test.YtihhpgklpichgabImg
import Derived.Test.YtihhpgklpichgabIm4
import Derived.Laws.StructEq
set_option linter.unusedSimpArgs false
set_option linter.unusedVariables false
namespace Go.Proofs.Ytihhpgklpichgab.Im
open Go.RowKit Pl Ft Mm In C2

def cut (l : List Int) (p n : Nat) : List Int := (l.drop p).take n
def numAt (l : List Int) (p n : Nat) : Int := numIn (cut l p n)
def byteOf (x : Int) : UInt8 := UInt8.ofNat x.toNat
def textOf (l : List Int) : ByteArray := ⟨(l.map byteOf).toArray⟩
/-- A step behind n numbers: to the end at most (the program's), or beyond (the model's, which is bad then). -/
def nameLen (l : List Int) (p : Nat) : Nat := (numAt l p 1).toNat
def nameU (l : List Int) (p : Nat) : Nm := ⟨textOf (cut l (p + 1) (nameLen l p)), numAt l (p + 1 + nameLen l p) 2⟩
def nameEnd (l : List Int) (p : Nat) : Nat := p + 1 + nameLen l p + 2
def namesEnd (l : List Int) (p : Nat) : Nat → Nat
  | 0 => p
  | k + 1 => nameEnd l (namesEnd l p k)
def namesU (l : List Int) (p : Nat) (k : Nat) : List Nm := (List.range k).map fun j => nameU l (namesEnd l p j)
def nameCount (l : List Int) : Nat := (numAt l 8 1).toNat
def codeLen (l : List Int) : Nat := (numAt l 2 2).toNat
def dataLen (l : List Int) : Nat := (numAt l 7 1).toNat
def codeAt (l : List Int) : Nat := namesEnd l 9 (nameCount l)
def fin (l : List Int) : Nat := codeAt l + codeLen l + dataLen l
def imageU (l : List Int) : Img := ⟨cut l (codeAt l) (codeLen l), numAt l 4 2, numAt l 6 1, cut l (codeAt l + codeLen l) (dataLen l), namesU l 9 (nameCount l)⟩
/-- The program's. -/
def aft (l : List Int) (p n : Nat) : Nat := min (p + n) l.length
def nameP (l : List Int) (p : Nat) : Nm := ⟨textOf (cut l (aft l p 1) (nameLen l p)), numAt l (aft l (aft l p 1) (nameLen l p)) 2⟩
def namePEnd (l : List Int) (p : Nat) : Nat := aft l (aft l (aft l p 1) (nameLen l p)) 2
def namesPEnd (l : List Int) (p : Nat) : Nat → Nat
  | 0 => p
  | k + 1 => namePEnd l (namesPEnd l p k)
def namesP (l : List Int) (p : Nat) (k : Nat) : List Nm := (List.range k).map fun j => nameP l (namesPEnd l p j)
def p2 (l : List Int) : Nat := aft l 0 2
def p4 (l : List Int) : Nat := aft l (p2 l) 2
def p6 (l : List Int) : Nat := aft l (p4 l) 2
def p7 (l : List Int) : Nat := aft l (p6 l) 1
def p8 (l : List Int) : Nat := aft l (p7 l) 1
def p9 (l : List Int) : Nat := aft l (p8 l) 1
def countP (l : List Int) : Nat := (numAt l (p8 l) 1).toNat
def pCode (l : List Int) : Nat := namesPEnd l (p9 l) (countP l)
def codeLenP (l : List Int) : Nat := (numAt l (p2 l) 2).toNat
def dataLenP (l : List Int) : Nat := (numAt l (p7 l) 1).toNat
def imageP (l : List Int) : Img := ⟨cut l (pCode l) (codeLenP l), numAt l (p4 l) 2, numAt l (p6 l) 1, cut l (aft l (pCode l) (codeLenP l)) (dataLenP l), namesP l (p9 l) (countP l)⟩
theorem nameEnd_le (l : List Int) (p : Nat) : p + 3 ≤ nameEnd l p := by unfold nameEnd; omega
theorem namesEnd_mono (l : List Int) (p : Nat) (k : Nat) : ∀ d, namesEnd l p k ≤ namesEnd l p (k + d) := by
  intro d
  induction d with
  | zero => exact Nat.le_refl _
  | succ d ih =>
    have := nameEnd_le l (namesEnd l p (k + d))
    show _ ≤ nameEnd l (namesEnd l p (k + d))
    omega
theorem namesEnd_mono' (l : List Int) (p : Nat) {k d : Nat} (h : k ≤ d) : namesEnd l p k ≤ namesEnd l p d := by
  have := namesEnd_mono l p k (d - k)
  rwa [Nat.add_sub_cancel' h] at this
theorem aft_eq {l : List Int} {p n : Nat} (h : p + n ≤ l.length) : aft l p n = p + n := Nat.min_eq_left h
theorem nameP_eq {l : List Int} {p : Nat} (h : nameEnd l p ≤ l.length) : nameP l p = nameU l p ∧ namePEnd l p = nameEnd l p := by
  unfold nameEnd at h
  unfold nameP nameU namePEnd nameEnd
  rw [aft_eq (p := p) (n := 1) (by omega), aft_eq (p := p + 1) (n := nameLen l p) (by omega), aft_eq (p := p + 1 + nameLen l p) (n := 2) (by omega)]
  exact ⟨rfl, rfl⟩
theorem namesP_eq {l : List Int} {p : Nat} : ∀ k, namesEnd l p k ≤ l.length → namesPEnd l p k = namesEnd l p k ∧ namesP l p k = namesU l p k := by
  intro k
  induction k with
  | zero => intro _; exact ⟨rfl, rfl⟩
  | succ k ih =>
    intro h
    have hk : namesEnd l p k ≤ l.length := Nat.le_trans (namesEnd_mono l p k 1) h
    obtain ⟨i1, i2⟩ := ih hk
    have hn := nameP_eq (l := l) (p := namesEnd l p k) h
    refine ⟨?_, ?_⟩
    · show namePEnd l (namesPEnd l p k) = nameEnd l (namesEnd l p k)
      rw [i1, hn.2]
    · unfold namesP namesU at i2 ⊢
      rw [List.range_succ, List.map_append, List.map_append, i2]
      simp only [List.map_cons, List.map_nil]
      rw [i1, hn.1]
theorem fin_ge (l : List Int) : 9 ≤ fin l := by
  have := namesEnd_mono l 9 0 (nameCount l)
  rw [Nat.zero_add] at this
  have e : namesEnd l 9 0 = 9 := rfl
  unfold fin codeAt
  omega
theorem imageP_eq {l : List Int} (h : fin l ≤ l.length) : imageP l = imageU l := by
  have h9 := fin_ge l
  have e2 : p2 l = 2 := aft_eq (p := 0) (n := 2) (by omega)
  have e4 : p4 l = 4 := by unfold p4; rw [e2]; exact aft_eq (p := 2) (n := 2) (by omega)
  have e6 : p6 l = 6 := by unfold p6; rw [e4]; exact aft_eq (p := 4) (n := 2) (by omega)
  have e7 : p7 l = 7 := by unfold p7; rw [e6]; exact aft_eq (p := 6) (n := 1) (by omega)
  have e8 : p8 l = 8 := by unfold p8; rw [e7]; exact aft_eq (p := 7) (n := 1) (by omega)
  have e9 : p9 l = 9 := by unfold p9; rw [e8]; exact aft_eq (p := 8) (n := 1) (by omega)
  have ec : countP l = nameCount l := by unfold countP nameCount; rw [e8]
  have el : codeLenP l = codeLen l := by unfold codeLenP codeLen; rw [e2]
  have ed : dataLenP l = dataLen l := by unfold dataLenP dataLen; rw [e7]
  have hc : codeAt l ≤ l.length := by unfold fin at h; omega
  obtain ⟨n1, n2⟩ := namesP_eq (l := l) (p := 9) (nameCount l) hc
  have ep : pCode l = codeAt l := by unfold pCode codeAt; rw [e9, ec, n1]
  unfold imageP imageU
  rw [e4, e6, e9, ec, el, ed, ep, n2, aft_eq (by unfold fin at h; omega)]
theorem cut_app (a b : List Int) (n : Nat) (h : b.length = n) (c : List Int) : cut (a ++ b ++ c) a.length n = b := by
  subst h
  unfold cut
  rw [List.append_assoc, List.drop_left, List.take_left]
theorem numIn2 (x : Int) (h0 : 0 ≤ x) (h1 : x ≤ 65535) : numIn (bytesOf x 2) = x := by
  have e : bytesOf x 2 = [x % 256, x / 256 % 256] := rfl
  rw [e]
  simp only [numIn]
  omega
theorem textOf_ints (s : ByteArray) : textOf (textInts s) = s := by
  unfold textOf textInts letters
  rw [List.map_map, List.map_map]
  have e : ((byteOf ∘ fun (c : Nat) => (c : Int)) ∘ fun (x : UInt8) => x.toNat) = id := by
    funext x
    simp [byteOf]
  rw [e]
  simp
theorem name_back (a c : List Int) (n : Nm) (h0 : 0 ≤ n.at_) (h1 : n.at_ ≤ 65535) (hs : n.text.size ≤ 255) :
    nameU (a ++ nmBytes n ++ c) a.length = n ∧ nameEnd (a ++ nmBytes n ++ c) a.length = a.length + (nmBytes n).length := by
  have e1 : nameLen (a ++ nmBytes n ++ c) a.length = n.text.size := by
    have : a ++ nmBytes n ++ c = a ++ [(n.text.size : Int)] ++ (textInts n.text ++ bytesOf n.at_ 2 ++ c) := by simp [nmBytes]
    unfold nameLen numAt
    rw [this, cut_app a [(n.text.size : Int)] 1 rfl]
    simp [numIn]
  have e2 : cut (a ++ nmBytes n ++ c) (a.length + 1) n.text.size = textInts n.text := by
    have : a ++ nmBytes n ++ c = (a ++ [(n.text.size : Int)]) ++ textInts n.text ++ (bytesOf n.at_ 2 ++ c) := by simp [nmBytes]
    rw [this]
    have h := cut_app (a ++ [(n.text.size : Int)]) (textInts n.text) n.text.size (textInts_len _) (bytesOf n.at_ 2 ++ c)
    rw [List.length_append] at h
    exact h
  have e3 : cut (a ++ nmBytes n ++ c) (a.length + 1 + n.text.size) 2 = bytesOf n.at_ 2 := by
    have : a ++ nmBytes n ++ c = (a ++ [(n.text.size : Int)] ++ textInts n.text) ++ bytesOf n.at_ 2 ++ c := by simp [nmBytes]
    rw [this]
    have h := cut_app (a ++ [(n.text.size : Int)] ++ textInts n.text) (bytesOf n.at_ 2) 2 (bytesOf_len _ _) c
    rw [List.length_append, List.length_append, textInts_len] at h
    exact h
  refine ⟨?_, by unfold nameEnd; rw [e1, nmBytes_len]; omega⟩
  unfold nameU numAt
  rw [e1, e2, e3, numIn2 _ h0 h1, textOf_ints]
theorem names_back (a r : List Int) (l : List Nm) (hl : ∀ n ∈ l, 0 ≤ n.at_ ∧ n.at_ ≤ 65535 ∧ n.text.size ≤ 255) :
    namesEnd (a ++ namesBytes l ++ r) a.length l.length = a.length + (namesBytes l).length ∧ namesU (a ++ namesBytes l ++ r) a.length l.length = l := by
  have key : ∀ k, k ≤ l.length → namesEnd (a ++ namesBytes l ++ r) a.length k = a.length + (namesBytes (l.take k)).length ∧ namesU (a ++ namesBytes l ++ r) a.length k = l.take k := by
    intro k
    induction k with
    | zero => intro _; exact ⟨by simp [namesEnd, namesBytes], by simp [namesU]⟩
    | succ k ih =>
      intro hk
      obtain ⟨i1, i2⟩ := ih (by omega)
      have hlt : k < l.length := by omega
      have hsp : a ++ namesBytes l ++ r = (a ++ namesBytes (l.take k)) ++ nmBytes l[k] ++ (namesBytes (l.drop (k + 1)) ++ r) := by
        have e1 : namesBytes l = namesBytes (l.take k) ++ (nmBytes l[k] ++ namesBytes (l.drop (k + 1))) := by
          have e2 : l.take k ++ (l[k] :: l.drop (k + 1)) = l := by rw [← List.drop_eq_getElem_cons hlt, List.take_append_drop]
          have e3 : namesBytes (l.take k ++ (l[k] :: l.drop (k + 1))) = namesBytes (l.take k) ++ (nmBytes l[k] ++ namesBytes (l.drop (k + 1))) := by simp only [namesBytes, List.flatMap_append, List.flatMap_cons]
          rw [e2] at e3
          exact e3
        rw [e1]
        simp
      obtain ⟨b0, b1, b2⟩ := hl l[k] (List.getElem_mem hlt)
      have hb := name_back (a ++ namesBytes (l.take k)) (namesBytes (l.drop (k + 1)) ++ r) l[k] b0 b1 b2
      rw [← hsp, List.length_append] at hb
      refine ⟨?_, ?_⟩
      · show nameEnd _ (namesEnd _ _ k) = _
        have eg : l.getD k .none = l[k] := by simp [hlt]
        rw [i1, hb.2, namesBytes_succ l k hlt, eg, List.length_append]
        omega
      · unfold namesU at i2 ⊢
        rw [List.range_succ, List.map_append, i2, List.take_succ_eq_append_getElem hlt]
        simp only [List.map_cons, List.map_nil]
        rw [i1, hb.1]
  have h := key l.length (Nat.le_refl _)
  rwa [List.take_length] at h
theorem image_back {m : Img} (h : imageOk m = true) : imageU (imgBytes m) = m ∧ fin (imgBytes m) ≤ (imgBytes m).length := by
  have hb := imageOk_bd h
  have hc0 := hb.c0
  have hc1 := hb.c1
  have he0 := hb.e0
  have he1 := hb.e1
  have hr0 := hb.r0
  have hr1 := hb.r1
  have hd := hb.d1
  have hn1 := hb.n1
  have hnm : ∀ n ∈ m.names, 0 ≤ n.at_ ∧ n.at_ ≤ 65535 ∧ n.text.size ≤ 255 := by
    intro n hn
    have h8 := hb.text8 n hn
    obtain ⟨k, hk, rfl⟩ := List.mem_iff_getElem.1 hn
    have := hb.at0 k hk
    have e : m.names.getD k .none = m.names[k] := by simp [hk]
    rw [e] at this
    omega
  obtain ⟨B, hB⟩ : ∃ B, imgBytes m = B := ⟨_, rfl⟩
  have hfl := front_len m
  have s0 : B = imgFront m ++ namesBytes m.names ++ ((m.code ++ m.data) ++ [chk (imgHead m)]) := by rw [← hB]; simp [imgBytes, imgHead]
  have s1 : B = [108, 99] ++ bytesOf m.code.length 2 ++ (bytesOf m.entry 2 ++ [m.room, (m.data.length : Int), (m.names.length : Int)] ++ namesBytes m.names ++ ((m.code ++ m.data) ++ [chk (imgHead m)])) := by rw [s0]; simp [imgFront]
  have s2 : B = ([108, 99] ++ bytesOf m.code.length 2) ++ bytesOf m.entry 2 ++ ([m.room, (m.data.length : Int), (m.names.length : Int)] ++ namesBytes m.names ++ ((m.code ++ m.data) ++ [chk (imgHead m)])) := by rw [s0]; simp [imgFront]
  have s3 : B = ([108, 99] ++ bytesOf m.code.length 2 ++ bytesOf m.entry 2) ++ [m.room] ++ ([(m.data.length : Int), (m.names.length : Int)] ++ namesBytes m.names ++ ((m.code ++ m.data) ++ [chk (imgHead m)])) := by rw [s0]; simp [imgFront]
  have s4 : B = ([108, 99] ++ bytesOf m.code.length 2 ++ bytesOf m.entry 2 ++ [m.room]) ++ [(m.data.length : Int)] ++ ([(m.names.length : Int)] ++ namesBytes m.names ++ ((m.code ++ m.data) ++ [chk (imgHead m)])) := by rw [s0]; simp [imgFront]
  have s5 : B = ([108, 99] ++ bytesOf m.code.length 2 ++ bytesOf m.entry 2 ++ [m.room, (m.data.length : Int)]) ++ [(m.names.length : Int)] ++ (namesBytes m.names ++ ((m.code ++ m.data) ++ [chk (imgHead m)])) := by rw [s0]; simp [imgFront]
  have c1 : cut B 2 2 = bytesOf m.code.length 2 := by rw [s1]; exact cut_app [108, 99] _ 2 (bytesOf_len _ _) _
  have c2 : cut B 4 2 = bytesOf m.entry 2 := by rw [s2]; exact cut_app ([108, 99] ++ bytesOf m.code.length 2) _ 2 (bytesOf_len _ _) _
  have c3 : cut B 6 1 = [m.room] := by rw [s3]; exact cut_app ([108, 99] ++ bytesOf m.code.length 2 ++ bytesOf m.entry 2) _ 1 rfl _
  have c4 : cut B 7 1 = [(m.data.length : Int)] := by rw [s4]; exact cut_app ([108, 99] ++ bytesOf m.code.length 2 ++ bytesOf m.entry 2 ++ [m.room]) _ 1 rfl _
  have c5 : cut B 8 1 = [(m.names.length : Int)] := by rw [s5]; exact cut_app ([108, 99] ++ bytesOf m.code.length 2 ++ bytesOf m.entry 2 ++ [m.room, (m.data.length : Int)]) _ 1 rfl _
  have n1 : codeLen B = m.code.length := by unfold codeLen numAt; rw [c1, numIn2 _ (by omega) (by omega)]; omega
  have n2 : numAt B 4 2 = m.entry := by unfold numAt; rw [c2, numIn2 _ he0 (by omega)]
  have n3 : numAt B 6 1 = m.room := by unfold numAt; rw [c3]; simp [numIn]
  have n4 : dataLen B = m.data.length := by unfold dataLen numAt; rw [c4]; simp [numIn]
  have n5 : nameCount B = m.names.length := by unfold nameCount numAt; rw [c5]; simp [numIn]
  obtain ⟨x1, x2⟩ := names_back (imgFront m) ((m.code ++ m.data) ++ [chk (imgHead m)]) m.names hnm
  rw [← s0, hfl] at x1 x2
  have hca : codeAt B = 9 + (namesBytes m.names).length := by unfold codeAt; rw [n5]; exact x1
  have d1 : cut B (codeAt B) (codeLen B) = m.code := by
    rw [n1, hca]
    have : B = (imgFront m ++ namesBytes m.names) ++ m.code ++ (m.data ++ [chk (imgHead m)]) := by rw [s0]; simp
    rw [this]
    have h := cut_app (imgFront m ++ namesBytes m.names) m.code m.code.length rfl (m.data ++ [chk (imgHead m)])
    rw [List.length_append, hfl] at h
    exact h
  have d2 : cut B (codeAt B + codeLen B) (dataLen B) = m.data := by
    rw [n1, n4, hca]
    have : B = (imgFront m ++ namesBytes m.names ++ m.code) ++ m.data ++ [chk (imgHead m)] := by rw [s0]; simp
    rw [this]
    have h := cut_app (imgFront m ++ namesBytes m.names ++ m.code) m.data m.data.length rfl [chk (imgHead m)]
    rw [List.length_append, List.length_append, hfl] at h
    exact h
  rw [hB]
  refine ⟨?_, ?_⟩
  · unfold imageU
    rw [d1, d2, n2, n3, n5, x2]
  · unfold fin
    rw [n1, n4, hca, s0]
    simp only [List.length_append, hfl]
    omega
/-- What ImageRead answers, by the program and by the model. -/
def eqInts (a b : List Int) : Bool := decide (a = b)
def readP (l : List Int) : Option Img := if (l.all isByte && (imageOk (imageP l) && eqInts (imgBytes (imageP l)) l)) = true then some (imageP l) else none
def readS (l : List Int) : Option Img := if (l.all isByte && (decide (fin l ≤ l.length) && (imageOk (imageU l) && eqInts (imgBytes (imageU l)) l))) = true then some (imageU l) else none
theorem read_eq (l : List Int) : readP l = readS l := by
  unfold readP readS
  by_cases hf : fin l ≤ l.length
  · rw [imageP_eq hf, decide_eq_true hf, Bool.true_and]
  · have hno : (imageOk (imageP l) && eqInts (imgBytes (imageP l)) l) = false := by
      rw [Bool.and_eq_false_iff]
      by_cases ho : imageOk (imageP l) = true
      · right
        rw [eqInts, decide_eq_false_iff_not]
        intro he
        have := image_back ho
        rw [he] at this
        exact hf this.2
      · left; simpa using ho
    rw [hno, decide_eq_false hf]
    simp
end Go.Proofs.Ytihhpgklpichgab.Im
namespace Go.Proofs.Ytihhpgklpichgab.Im
open Go.RowKit Pl Ft Mm In C2

def SameTo (xs ys : List Int) (k : Nat) : Prop := xs.take k = ys.take k
theorem SameTo.succ {xs ys : List Int} {k : Nat} (h : SameTo xs ys k) (h1 : k < xs.length) (h2 : k < ys.length) (he : xs.getD k 0 = ys.getD k 0) : SameTo xs ys (k + 1) := by
  unfold SameTo at h ⊢
  rw [take_all xs k h1, take_all ys k h2, h, he]
theorem eqInts_no {xs ys : List Int} {k : Nat} (h : xs.getD k 0 ≠ ys.getD k 0) : eqInts xs ys = false := by
  unfold eqInts
  rw [decide_eq_false_iff_not]
  intro e
  rw [e] at h
  exact h rfl
theorem eqInts_len {xs ys : List Int} (h : xs.length ≠ ys.length) : eqInts xs ys = false := by
  unfold eqInts
  rw [decide_eq_false_iff_not]
  intro e
  rw [e] at h
  exact h rfl
theorem eqInts_yes {xs ys : List Int} (hl : xs.length = ys.length) (h : SameTo xs ys xs.length) : eqInts xs ys = true := by
  unfold eqInts SameTo at *
  rw [decide_eq_true_eq]
  have h2 := h
  rw [List.take_length] at h2
  rw [hl, List.take_length] at h2
  exact h2
def EqPost (b : Bool) (w : World) (e : Ending) (w' : World) : Prop := e = .returned (.bool b) ∧ ∃ m, w' = w.drewN m
theorem eqPost {b b' : Bool} {w wr : World} (hw : ∃ m, wr = w.drewN m) (h : b = b') : EqPost b w (.returned (.bool b')) wr := ⟨bool_eq h.symm, hw⟩
set_option maxHeartbeats 1000000 in
theorem equalI_c (xs ys : List Int) (va vb : Value) (w : World) (ha : Rd w va xs) (hb : Rd w vb ys) (hx : xs.length ≤ 4611686018427387904) (hy : ys.length ≤ 4611686018427387904) :
    Calls Try.prog 82 #[va, vb] w (EqPost (eqInts xs ys) w) := by
  obtain ⟨a, ca, rfl, ha⟩ := ha
  obtain ⟨b, cb, rfl, hb⟩ := hb
  have HA := hid ha
  have HB := hid hb
  clear ha hb
  by_cases hl : xs.length = ys.length
  case neg =>
    have HN := hid (eqInts_len hl)
    have hne : ((xs.length : Int) == (ys.length : Int)) = false := by rw [beq_eq_false_iff_ne]; omega
    have hne2 : ((xs.length : Int) != (ys.length : Int)) = true := by rw [bne_iff_ne]; omega
    go_enter Try.func82, Try.ntmps82
    go_wp2_with fail
    go_ret
    exact eqPost ⟨0, rfl⟩ HN.out
  have HL := hid hl
  rw [← hl]
  clear hl
  go_enter Try.func82, Try.ntmps82
  go_wp2_with fail
  go_loopw [13] (fun c wr => ∃ k : Nat, c = .int .i64 k ∧ k ≤ xs.length ∧ SameTo xs ys k ∧ ∃ m, wr = w.drewN m) (fun c _ => xs.length - (intOf c).toNat)
  case atStart => exact ⟨0, rfl, by omega, by simp [SameTo], 0, rfl⟩
  case round =>
    obtain ⟨k, rfl, hk, hs, hw⟩ := hrel
    have HS := hid hs
    have HW := hid hw
    have HCell := hid (cell_wd hw)
    clear hs hw
    by_cases hlt : k < xs.length
    · rcases HA.out with h | ⟨g, o, rfl, hg, hc⟩
      · subst h; simp at hlt
      rcases HB.out with h | ⟨g2, o2, rfl, hg2, hc2⟩
      · have := HL.out; rw [h] at this; simp at this; rw [this] at hlt; simp at hlt
      have q1 := hc k hlt
      have q2 := hc2 k (by have := HL.out; omega)
      obtain ⟨x, hx⟩ : ∃ x, xs.getD k 0 = x := ⟨_, rfl⟩
      obtain ⟨y, hy⟩ : ∃ x, ys.getD k 0 = x := ⟨_, rfl⟩
      rw [hx, ← HCell.out] at q1
      rw [hy, ← HCell.out] at q2
      have HX := hid hx
      have HY := hid hy
      have k1 : (k : Int) < xs.length := by omega
      have k0 : 0 ≤ (k : Int) := by omega
      clear hc hc2 hx hy
      by_cases he : x = y
      · have HS2 := hid (HS.out.succ hlt (by have := HL.out; omega) (by rw [HX.out, HY.out]; exact he))
        subst he
        go_wp2_with fail
        go_quiet (fail)
        clear q1 q2
        go_wp2_with fail
        go_roundw
        case rel => exact ⟨k + 1, by go_num, by omega, HS2.out, wd_more HW.out _⟩
        case measure => simp [intOf]; omega
      · have HN := hid (show eqInts xs ys = false from eqInts_no (k := k) (by rw [HX.out, HY.out]; exact he))
        have hne : (x == y) = false := by rw [beq_eq_false_iff_ne]; exact he
        have hne2 : (x != y) = true := by rw [bne_iff_ne]; exact he
        clear he
        go_wp2_with fail
        go_quiet (fail)
        clear q1 q2
        go_wp2_with fail
        go_ret
        exact eqPost (wd_more HW.out _) HN.out
    · obtain rfl : k = xs.length := by omega
      have HY := hid (eqInts_yes HL.out HS.out)
      go_wp2_with fail
      go_ret
      exact eqPost HW.out HY.out
set_option maxHeartbeats 1000000 in
theorem sameInts_q (xs ys : List Int) (va vb : Value) (w : World) (ha : Rd w va xs) (hb : Rd w vb ys) (hx : xs.length ≤ 4611686018427387904) (hy : ys.length ≤ 4611686018427387904) :
    Calls Try.prog 71 #[va, vb] w (EqPost (eqInts xs ys) w) := by
  obtain ⟨a, ca, rfl, ha⟩ := ha
  obtain ⟨b, cb, rfl, hb⟩ := hb
  have HA := hid ha
  have HB := hid hb
  clear ha hb
  by_cases hl : xs.length = ys.length
  case neg =>
    have HN := hid (eqInts_len hl)
    have hne : ((xs.length : Int) == (ys.length : Int)) = false := by rw [beq_eq_false_iff_ne]; omega
    have hne2 : ((xs.length : Int) != (ys.length : Int)) = true := by rw [bne_iff_ne]; omega
    go_enter Try.func71, Try.ntmps71
    go_wp2_with fail
    go_ret
    exact eqPost ⟨0, rfl⟩ HN.out
  have HL := hid hl
  rw [← hl]
  clear hl
  go_enter Try.func71, Try.ntmps71
  go_wp2_with fail
  go_loopw [5] (fun c wr => ∃ k : Nat, c = .int .i64 k ∧ k ≤ xs.length ∧ SameTo xs ys k ∧ ∃ m, wr = w.drewN m) (fun c _ => xs.length - (intOf c).toNat)
  case atStart => exact ⟨0, rfl, by omega, by simp [SameTo], 0, rfl⟩
  case round =>
    obtain ⟨k, rfl, hk, hs, hw⟩ := hrel
    have HS := hid hs
    have HW := hid hw
    have HCell := hid (cell_wd hw)
    clear hs hw
    by_cases hlt : k < xs.length
    · rcases HA.out with h | ⟨g, o, rfl, hg, hc⟩
      · subst h; simp at hlt
      rcases HB.out with h | ⟨g2, o2, rfl, hg2, hc2⟩
      · have := HL.out; rw [h] at this; simp at this; rw [this] at hlt; simp at hlt
      have q1 := hc k hlt
      have q2 := hc2 k (by have := HL.out; omega)
      obtain ⟨x, hx⟩ : ∃ x, xs.getD k 0 = x := ⟨_, rfl⟩
      obtain ⟨y, hy⟩ : ∃ x, ys.getD k 0 = x := ⟨_, rfl⟩
      rw [hx, ← HCell.out] at q1
      rw [hy, ← HCell.out] at q2
      have HX := hid hx
      have HY := hid hy
      have k1 : (k : Int) < xs.length := by omega
      have k0 : 0 ≤ (k : Int) := by omega
      clear hc hc2 hx hy
      by_cases he : x = y
      · have HS2 := hid (HS.out.succ hlt (by have := HL.out; omega) (by rw [HX.out, HY.out]; exact he))
        subst he
        go_wp2_with fail
        go_quiet (fail)
        clear q1 q2
        go_wp2_with fail
        go_roundw
        case rel => exact ⟨k + 1, by go_num, by omega, HS2.out, wd_more HW.out _⟩
        case measure => simp [intOf]; omega
      · have HN := hid (show eqInts xs ys = false from eqInts_no (k := k) (by rw [HX.out, HY.out]; exact he))
        have hne : (x == y) = false := by rw [beq_eq_false_iff_ne]; exact he
        have hne2 : (x != y) = true := by rw [bne_iff_ne]; exact he
        clear he
        go_wp2_with fail
        go_quiet (fail)
        clear q1 q2
        go_wp2_with fail
        go_ret
        exact eqPost (wd_more HW.out _) HN.out
    · obtain rfl : k = xs.length := by omega
      have HY := hid (eqInts_yes HL.out HS.out)
      go_wp2_with fail
      go_ret
      exact eqPost HW.out HY.out
/-- Names that are equal, one by one. -/
def eqNm (a b : Nm) : Bool := (a.text.toList == b.text.toList) && (a.at_ == b.at_)
def eqNames (a b : List Nm) : Bool := decide (a.length = b.length) && (List.range a.length).all fun k => eqNm (a.getD k .none) (b.getD k .none)
def SameNTo (a b : List Nm) (k : Nat) : Prop := ∀ j, j < k → eqNm (a.getD j .none) (b.getD j .none) = true
theorem SameNTo.succ {a b : List Nm} {k : Nat} (h : SameNTo a b k) (he : eqNm (a.getD k .none) (b.getD k .none) = true) : SameNTo a b (k + 1) := by
  intro j hj
  by_cases e : j = k
  · subst e; exact he
  · exact h j (by omega)
theorem eqNames_no {a b : List Nm} {k : Nat} (hk : k < a.length) (h : eqNm (a.getD k .none) (b.getD k .none) = false) : eqNames a b = false := by
  have : ((List.range a.length).all fun k => eqNm (a.getD k .none) (b.getD k .none)) = false := by
    rw [List.all_eq_false]
    exact ⟨k, List.mem_range.2 hk, by rw [h]; simp⟩
  unfold eqNames
  rw [this]; simp
theorem eqNames_len {a b : List Nm} (h : a.length ≠ b.length) : eqNames a b = false := by
  unfold eqNames
  rw [decide_eq_false h]; rfl
theorem eqNames_yes {a b : List Nm} (hl : a.length = b.length) (h : SameNTo a b a.length) : eqNames a b = true := by
  unfold eqNames
  rw [decide_eq_true hl, Bool.true_and, List.all_eq_true]
  intro k hk
  exact h k (List.mem_range.1 hk)
theorem name_fields : Try.prog.underlying 98 = some (.struct (Try.prog.fieldsOf 98)) := by kernel_rfl
theorem name_held : Try.prog.stoodInHeld 98 = false := by kernel_rfl
theorem name_guard : Try.prog.eqGuardType Try.prog.depth 98 = false := by kernel_rfl
theorem neq_name (s t : ByteArray) (x y : Int) {b : Bool} (hb : ((s.toList == t.toList) && (x == y)) = b) (w : World) : (binOp .neq 98 (.agg #[.string s, .int .i64 x]) (.agg #[.string t, .int .i64 y])).run Try.prog w = .ok (.bool (!b)) w := by
  have hu := name_fields.symm.trans Try.underlying98
  simp only [Option.some.injEq, TypeDesc.struct.injEq] at hu
  rw [run_neq_struct, run_equalIn_agg _ _ _ _ _ name_fields name_held, hu, ← hb]
  cases h : (s.toList == t.toList)
  · simp [Op.eqFields, part, go_sem, Try.underlying9, Try.underlying3, h]
  · by_cases hx : x = y
    · simp [Op.eqFields, part, go_sem, Try.underlying9, Try.underlying3, h, hx]
    · simp [Op.eqFields, part, go_sem, Try.underlying9, Try.underlying3, h, hx]
theorem guard_name (op : BinOp) (a b : Operand) (xs ys : Array Value) (w : World) : (eqGuard op 98 a b (.agg xs) (.agg ys)).run Try.prog w = .ok () w := run_eqGuard_agg w op 98 a b xs ys name_guard
set_option maxHeartbeats 1000000 in
theorem equalN_c (xs ys : List Nm) (va vb : Value) (w : World) (ha : NRd w va xs) (hb : NRd w vb ys) (hx : xs.length ≤ 1048576) (hy : ys.length ≤ 1048576) :
    Calls Try.prog 83 #[va, vb] w (EqPost (eqNames xs ys) w) := by
  obtain ⟨a, ca, rfl, ha⟩ := ha
  obtain ⟨b, cb, rfl, hb⟩ := hb
  have HA := hid ha
  have HB := hid hb
  clear ha hb
  by_cases hl : xs.length = ys.length
  case neg =>
    have HN := hid (eqNames_len hl)
    have hne : ((xs.length : Int) == (ys.length : Int)) = false := by rw [beq_eq_false_iff_ne]; omega
    have hne2 : ((xs.length : Int) != (ys.length : Int)) = true := by rw [bne_iff_ne]; omega
    go_enter Try.func83, Try.ntmps83
    go_wp2_with fail
    go_ret
    exact eqPost ⟨0, rfl⟩ HN.out
  have HL := hid hl
  rw [← hl]
  clear hl
  go_enter Try.func83, Try.ntmps83
  go_wp2_with fail
  go_loopw [13] (fun c wr => ∃ k : Nat, c = .int .i64 k ∧ k ≤ xs.length ∧ SameNTo xs ys k ∧ ∃ m, wr = w.drewN m) (fun c _ => xs.length - (intOf c).toNat)
  case atStart => exact ⟨0, rfl, by omega, fun j hj => by omega, 0, rfl⟩
  case round =>
    obtain ⟨k, rfl, hk, hs, hw⟩ := hrel
    have HS := hid hs
    have HW := hid hw
    have HCell := hid (cell_wd hw)
    clear hs hw
    by_cases hlt : k < xs.length
    · rcases HA.out with h | ⟨g, o, rfl, hg, hc⟩
      · subst h; simp at hlt
      rcases HB.out with h | ⟨g2, o2, rfl, hg2, hc2⟩
      · have := HL.out; rw [h] at this; simp at this; rw [this] at hlt; simp at hlt
      obtain ⟨q1, q2⟩ := hc k hlt
      obtain ⟨r1, r2⟩ := hc2 k (by have := HL.out; omega)
      obtain ⟨s, hs1⟩ : ∃ x, (xs.getD k .none).text = x := ⟨_, rfl⟩
      obtain ⟨x, hx1⟩ : ∃ x, (xs.getD k .none).at_ = x := ⟨_, rfl⟩
      obtain ⟨t, ht1⟩ : ∃ x, (ys.getD k .none).text = x := ⟨_, rfl⟩
      obtain ⟨y, hy1⟩ : ∃ x, (ys.getD k .none).at_ = x := ⟨_, rfl⟩
      rw [hs1, ← HCell.out] at q1
      rw [hx1, ← HCell.out] at q2
      rw [ht1, ← HCell.out] at r1
      rw [hy1, ← HCell.out] at r2
      have HE := hid (show eqNm (xs.getD k .none) (ys.getD k .none) = ((s.toList == t.toList) && (x == y)) by rw [eqNm, hs1, hx1, ht1, hy1])
      have k1 : (k : Int) < xs.length := by omega
      have k0 : 0 ≤ (k : Int) := by omega
      clear hc hc2 hs1 hx1 ht1 hy1
      cases hb : ((s.toList == t.toList) && (x == y))
      · have HN := hid (eqNames_no (b := ys) hlt (HE.out.trans hb))
        have hnq := neq_name s t x y hb
        have hgn := fun op a b => guard_name op a b #[.string s, .int .i64 x] #[.string t, .int .i64 y]
        simp only [Bool.not_false] at hnq
        clear hb
        go_wp2_with fail
        go_quiet (fail)
        clear q1 q2 r1 r2 hnq hgn
        go_wp2_with fail
        go_ret
        exact eqPost (wd_more HW.out _) HN.out
      · have HS2 := hid (HS.out.succ (HE.out.trans hb))
        have hnq := neq_name s t x y hb
        have hgn := fun op a b => guard_name op a b #[.string s, .int .i64 x] #[.string t, .int .i64 y]
        simp only [Bool.not_true] at hnq
        clear hb
        go_wp2_with fail
        go_quiet (fail)
        clear q1 q2 r1 r2 hnq hgn
        go_wp2_with fail
        go_roundw
        case rel => exact ⟨k + 1, by go_num, by omega, HS2.out, wd_more HW.out _⟩
        case measure => simp [intOf]; omega
    · obtain rfl : k = xs.length := by omega
      have HY := hid (eqNames_yes HL.out HS.out)
      go_wp2_with fail
      go_ret
      exact eqPost HW.out HY.out
end Go.Proofs.Ytihhpgklpichgab.Im
