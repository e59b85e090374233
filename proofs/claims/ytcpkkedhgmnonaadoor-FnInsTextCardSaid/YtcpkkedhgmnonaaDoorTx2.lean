/- InsText, by the program. -/
import Derived.Test.YtcpkkedhgmnonaaDoorTx
import Derived.Test.YtcpkkedhgmnonaaDoorLay2
import Derived.Test.YtcpkkedhgmnonaaDoorApp2
import Derived.Lib.SplitLaws
set_option linter.unusedSimpArgs false
set_option linter.unusedVariables false
namespace Go.Proofs.YtcpkkedhgmnonaaDoor.Tx
open Go.RowKit Pl Ft Mm In C2 Im

def strs (l : List ByteArray) : List Value := l.map Value.string
theorem info_string : (Tryd.prog.info? 9).map (fun i => (i.zero, i.size, i.bytes)) = some (some (.string ⟨#[]⟩), 1, 16) := by kernel_rfl
section
variable {ops : Array Oper} {rest : List Oper} {o : Oper} {a : Act} {Q : Exit → Act → World → Prop} (w : World)
theorem app_strs (hgd : o.guard = none) (s x : Operand)
    (ho : o.op = .call { callee := .builtin .append, args := #[s, x], argTypes := #[41, 41] })
    (B : Nat) (xs ys : List ByteArray) (v : Value) (hs : a.eval s = v) (hown : w.ownsRow B 9 1 v xs.length (strs xs))
    (A : Option Addr) (m c : Nat) (hx : a.eval x = .slice A m c) (hm : m = ys.length) (hsrc : SrcAt w A m 1 (strs ys))
    (hl : xs.length + ys.length ≤ 1000000000) (hB : B ≤ w.heap.size)
    (h : ∀ v' w', w'.ownsRow B 9 1 v' (xs ++ ys).length (strs (xs ++ ys)) → Below B w w' → wpList Tryd.prog ops Q rest (a.put o.dst v') w') : wpList Tryd.prog ops Q (o :: rest) a w := by
  obtain ⟨i0, hi, hz0, hz1, hz2⟩ := info_parts info_string
  subst hm
  exact wpList_app w hgd s x 41 ho B 9 i0 (.string ⟨#[]⟩) 1 16 Tryd.underlying41 hi hz0 hz1 hz2 rfl (by decide) v xs.length (strs xs) hs hown A ys.length c (strs ys) hx hsrc
    (fun u hu => by obtain ⟨y, _, rfl⟩ := List.mem_map.1 hu; rfl) (by simp only [maxLen]; omega) (by omega) hB
    (fun v' w' h1 h2 h3 => h v' w' (by rw [List.length_append, strs, List.map_append]; exact h1) ((Below.refl B w).grown h2 hB (fun g hg => (hown.lt g hg).1)))
end
theorem src_strs (w : World) (ys : List ByteArray) (cs : Array Value) (H n : Nat) (h : cs.toList = strs ys) (hH : w.heap.size = H) (hn : n = ys.length) : SrcAt (w.alloc (.cells cs 9)) (some ⟨H, 0, none⟩) n 1 (strs ys) := by
  subst hH
  subst hn
  exact ⟨by simp [strs], .inr ⟨_, rfl, new_cells w cs _ _ h⟩⟩
/-- The pieces of a text. -/
def pieces (s : ByteArray) : List ByteArray := Lib.splitB ⟨#[32]⟩ 0 (Lib.countB s ⟨#[32]⟩) s
def outs (i : IIns) (l : List ByteArray) : List ByteArray := l.map (partOf · i)
def insTextOf (f : IForm) (i : IIns) : ByteArray := ⟨(Lib.join ((outs i (pieces f.text)).map (·.data.toList)) [32]).toArray⟩
/-- The rounds. -/
structure PartsRel (i : IIns) (L : List ByteArray) (w : World) (k : Nat) (v : Value) (wr : World) : Prop where
  le : k ≤ L.length
  own : wr.ownsRow w.heap.size 9 1 v k (strs (outs i (L.take k)))
  bel : Below w.heap.size w wr
set_option maxRecDepth 100000 in
set_option maxHeartbeats 1000000 in
theorem insText_c (i : IIns) (f : IForm) (w : World) (hfo : formOf i = some f) (ht : Tab w) (hc : Conds w) (m : Int) (hm : w.cell? ⟨1, 0, none⟩ = some (.int .i64 m)) (hg1 : 1 < w.heap.size)
    (hsz : f.text.size ≤ 100) (hC : ∀ p ∈ pieces f.text, p.toList = [67] → 0 ≤ i.b ∧ i.b < 6) (hlen : ((Lib.join ((outs i (pieces f.text)).map (·.data.toList)) [32])).length ≤ 100000000)
    (hpl : (pieces f.text).length ≤ 100)
    (ha : -1000000 ≤ i.a ∧ i.a ≤ 1000000) (hb : -1000000 ≤ i.b ∧ i.b ≤ 1000000) (hn : -1000000 ≤ i.n ∧ i.n ≤ 1000000) :
    Calls Tryd.prog 6 #[i.val] w fun e w' => e = .returned (.string (insTextOf f i)) ∧ Below w.heap.size w w' := by
  obtain ⟨op, a, b, n⟩ := i
  have HT := hid ht
  have HC := hid hc
  have HM := hid hm
  have HFo := hid hfo
  have HAll := hid (And.intro ha (And.intro hb hn))
  have HCC := hid hC
  have HLen := hid hlen
  clear ht hc hm hfo ha hb hn hC hlen
  have hV : (IIns.mk op a b n).val = .agg #[.int .i64 op, .int .i64 a, .int .i64 b, .int .i64 n] := rfl
  have HV := hid hV
  rw [hV]
  clear hV
  have HX0 := hid (Row.new w 24 #[.int .i64 op, .int .i64 a, .int .i64 b, .int .i64 n])
  have HB0 := hid ((Below.refl w.heap.size w).alloc (Nat.le_refl _) (.cells #[.int .i64 op, .int .i64 a, .int .i64 b, .int .i64 n] 24))
  obtain ⟨r, hr⟩ : ∃ r, insTextOf f ⟨op, a, b, n⟩ = r := ⟨_, rfl⟩
  rw [hr]
  have HR := hid hr
  clear hr
  go_enter Tryd.func6, Tryd.ntmps6
  go_wp2_with fail
  generalize w.alloc (.cells #[.int .i64 op, .int .i64 a, .int .i64 b, .int .i64 n] 24) = w0 at HX0 HB0 ⊢
  rw [← HV.out]
  refine (formOf_c ⟨op, a, b, n⟩ w0).mono ?_
  rintro e w1 ⟨rfl, hb1⟩
  have HX1 := hid (HX0.out.on hb1)
  have HB1 := hid (HB0.out.trans (hb1.mono HB0.out.size))
  clear hb1
  rw [HV.out]
  obtain ⟨f1, f2, f3, f4, f5, f6, f7, f8⟩ := f
  have hv : formVal ⟨op, a, b, n⟩ = .tuple #[.agg #[.int .i64 f1, .int .i64 f2, .int .i64 f3, .int .i64 f4, .int .i64 f5, .int .i64 f6, .string f7, .string f8], .bool true] := by unfold formVal; rw [HFo.out]; rfl
  rw [hv]
  clear hv
  simp only at hsz hpl
  go_wp2_with fail
  have hal := HB1.out.alloc HB1.out.size (.cells #[.int .i64 f1, .int .i64 f2, .int .i64 f3, .int .i64 f4, .int .i64 f5, .int .i64 f6, .string f7, .string f8] 38)
  have hm2 := (hal.cell (p := ⟨1, 0, none⟩) hg1).trans HM.out
  refine (Tryd.strings_Split f8 ⟨#[32]⟩ m _ (by omega) hm2 (by decide)).mono ?_
  rintro e w2 ⟨rfl, rfl⟩
  have hlL : (pieces f8).length = Lib.countB f8 ⟨#[32]⟩ + 1 := Lib.splitB_all _ (by decide) 0 _ f8 rfl
  have HP := hid (show Lib.splitB ⟨#[32]⟩ 0 (Lib.countB f8 ⟨#[32]⟩) f8 = pieces f8 from rfl)
  rw [HP.out, ← hlL]
  obtain ⟨L, hL⟩ : ∃ L, pieces f8 = L := ⟨_, rfl⟩
  have HL := hid hL
  rw [hL] at hpl ⊢
  have hL1 : 1 ≤ L.length := by rw [← hL, hlL]; omega
  clear hlL hL HP hm2
  have HX2 := hid (HX1.out.on ((Below.refl _ _).alloc (Nat.le_refl _) (.cells #[.int .i64 f1, .int .i64 f2, .int .i64 f3, .int .i64 f4, .int .i64 f5, .int .i64 f6, .string f7, .string f8] 38)))
  have HB2 := hid hal
  clear hal
  generalize hw2 : w1.alloc (.cells #[.int .i64 f1, .int .i64 f2, .int .i64 f3, .int .i64 f4, .int .i64 f5, .int .i64 f6, .string f7, .string f8] 38) = w2 at HX2 HB2 ⊢
  have hz2 : w2.heap.size = w1.heap.size + 1 := by rw [← hw2]; simp
  rw [hz2]
  clear hw2
  have HS3 := hid (Row.new w2 9 (L.map Value.string).toArray)
  have HX3 := hid (HX2.out.alloc (.cells (L.map Value.string).toArray 9))
  have HB3 := hid (HB2.out.alloc HB2.out.size (.cells (L.map Value.string).toArray 9))
  generalize w2.alloc (.cells (L.map Value.string).toArray 9) = w3 at HS3 HX3 HB3 ⊢
  rw [hz2] at HS3
  clear hz2
  go_wp2_with fail
  go_loopw [5, 19] (fun v c wr => ∃ k : Nat, c = .int .i64 k ∧ PartsRel ⟨op, a, b, n⟩ L w3 k v wr) (fun _ c _ => L.length - (intOf c).toNat)
  case atStart => exact ⟨0, rfl, by omega, ⟨by simp [strs, outs], .inl ⟨rfl, rfl⟩⟩, Below.refl _ _⟩
  case round =>
    obtain ⟨k, rfl, hrel⟩ := hrel
    have HRl := hid hrel
    have hk := hrel.le
    clear hrel
    have HXr := hid (HX3.out.on HRl.out.bel)
    have HSr := hid (HS3.out.on HRl.out.bel)
    obtain ⟨sv, cv, rfl⟩ := own_slice HRl.out.own
    by_cases hlt : k < L.length
    · have c0 := HSr.out.cell k
      obtain ⟨p, hp⟩ : ∃ p, L[k] = p := ⟨_, rfl⟩
      have c1 : wr.cell? ⟨w1.heap.size + 1, k, none⟩ = some (.string p) := by rw [c0]; simp [hlt, hp]
      have x0 := HXr.out.cell 0
      have x1 := HXr.out.cell 1
      have x2 := HXr.out.cell 2
      have x3 := HXr.out.cell 3
      simp at x0 x1 x2 x3
      have HPk := hid hp
      have hCp := HCC.out p (by rw [HL.out, ← hp]; exact List.getElem_mem _)
      have HCp := hid hCp
      have hxs : (outs ⟨op, a, b, n⟩ (L.take k)).length = k := by simp [outs]; omega
      have hsuc : outs ⟨op, a, b, n⟩ (L.take (k + 1)) = outs ⟨op, a, b, n⟩ (L.take k) ++ [partOf p ⟨op, a, b, n⟩] := by
        rw [List.take_succ_eq_append_getElem hlt, hp]; simp [outs]
      obtain ⟨t, ht⟩ : ∃ t, partOf p ⟨op, a, b, n⟩ = t := ⟨_, rfl⟩
      rw [ht] at hsuc
      have HTp := hid ht
      have HSuc := hid hsuc
      have HOk := hid HRl.out.own
      obtain ⟨xs, hx⟩ : ∃ xs, outs ⟨op, a, b, n⟩ (L.take k) = xs := ⟨_, rfl⟩
      rw [hx] at hxs HSuc HOk
      clear c0 hp hCp hsuc ht hx
      go_wp2_with fail
      rw [← HV.out]
      refine (partText_c p ⟨op, a, b, n⟩ wr (HT.out.on (HB3.out.trans (HRl.out.bel.mono HB3.out.size))) (HC.out.on (HB3.out.trans (HRl.out.bel.mono HB3.out.size))) HAll.out.1 HAll.out.2.1 HAll.out.2.2 HCp.out).mono ?_
      rw [HTp.out]
      rintro e w5 ⟨rfl, hb5⟩
      rw [HV.out]
      have HO5 := hid (own_on HOk.out hb5)
      have HB5 := hid (HRl.out.bel.trans (hb5.mono HRl.out.bel.size))
      clear hb5 x0 x1 x2 x3 c1
      go_wp2_with (at_builtin; refine app_strs _ rfl _ _ rfl w3.heap.size xs [t] _ rfl (by rw [hxs]; exact own_on HO5.out ((Below.refl _ _).alloc (Nat.le_refl _) _)) _ _ _ rfl rfl (src_strs _ [t] #[.string t] _ 1 rfl (by simp) rfl) (by simp; omega) (by have := HB5.out.size; simp; omega) ?_)
      intro v' w7 hown7 hb7
      have HP7 := hid (show PartsRel ⟨op, a, b, n⟩ L w3 (k + 1) v' w7 from ⟨hlt, by rw [HSuc.out]; exact hown7, (HB5.out.alloc HB5.out.size _).trans hb7⟩)
      clear hown7 hb7
      go_wp2_with fail
      go_roundw
      case rel => exact ⟨k + 1, by go_num, HP7.out⟩
      case measure => simp [intOf]; omega
    · obtain rfl : k = L.length := by omega
      have HO := hid HRl.out.own
      rw [List.take_length] at HO
      obtain ⟨g, cap', hv, _, hg⟩ := own_addr HO.out (by omega)
      simp only [Value.slice.injEq] at hv
      obtain ⟨rfl, _, rfl⟩ := hv
      have hcap := (own_cap HO.out).of
      have hxs : (outs ⟨op, a, b, n⟩ L).length = L.length := by simp [outs]
      have hcell : ∀ (j : Nat) x, (outs ⟨op, a, b, n⟩ L)[j]? = some x → wr.cell? ⟨g, 0 + j, none⟩ = some (.string x) := by
        intro j x hx
        have q := HO.out.cells (g := g) rfl j (.string x) (by simp [strs, hx])
        have e : ∀ n, (⟨g, 0, none⟩ : Addr).add n = ⟨g, n, none⟩ := by intro n; unfold Addr.add; split <;> simp_all
        rw [e] at q
        rw [Nat.zero_add]
        exact q
      have hlen : (Lib.join ((outs ⟨op, a, b, n⟩ L).map (·.data.toList)) [32]).length ≤ 100000000 := by have := HLen.out; rwa [HL.out] at this
      have hres : r = ⟨(Lib.join ((outs ⟨op, a, b, n⟩ L).map (·.data.toList)) [32]).toArray⟩ := by rw [← HR.out, insTextOf]; simp only; rw [HL.out]
      have HCell := hid hcell
      have HLn := hid hlen
      have HRes := hid hres
      clear hcell hlen hres
      go_wp2_with fail
      rw [← hxs]
      refine (Tryd.strings_Join g 0 cv (outs ⟨op, a, b, n⟩ L) ⟨#[32]⟩ wr HCell.out hg (by omega) (by omega) (Nat.le_trans HLn.out (by decide))).mono ?_
      rintro e w8 ⟨rfl, hb8⟩
      have HB8 := hid ((HB3.out.trans (HRl.out.bel.mono HB3.out.size)).trans (hb8.mono (HB3.out.trans (HRl.out.bel.mono HB3.out.size)).size))
      clear hb8
      go_wp2_with fail
      go_ret
      exact ⟨by rw [HRes.out]; rfl, HB8.out⟩
end Go.Proofs.YtcpkkedhgmnonaaDoor.Tx
