/- The laws' own marks of an image: markImage, heldImage. -/
import Derived.Test.YtadcepgeodcacaaMark2
set_option linter.unusedSimpArgs false
set_option linter.unusedVariables false
namespace Go.Proofs.Ytadcepgeodcacaa.Im
open Go.RowKit Pl Ft Mm In C2

def inImg (vc vd vn : Value) (g : Nat) : Prop := vc.ownBlock = some g ∨ vd.ownBlock = some g ∨ vn.ownBlock = some g
def marked (m : Img) : Img := ⟨upFrom ((1 : Nat) : Int) m.code.length, m.entry, m.room, upFrom ((1 + m.code.length : Nat) : Int) m.data.length, nmMarks (1 + m.code.length + m.data.length) m.names.length⟩
def markEnd (m : Img) : Nat := 1 + m.code.length + m.data.length + 2 * m.names.length
theorem int_ne_name : 3 ≠ 77 := by decide
theorem name_ne_int : 77 ≠ 3 := by decide
theorem img_ne_int : 41 ≠ 3 := by decide
theorem IOwn.lt {w : World} {B : Nat} {vc vd vn : Value} {m : Img} (h : IOwn w B vc vd vn m) (g : Nat) (hg : inImg vc vd vn g) : B ≤ g ∧ g < w.heap.size := by
  rcases hg with hg | hg | hg
  · exact h.c.lt g hg
  · exact h.d.lt g hg
  · exact h.n.lt g hg
set_option maxHeartbeats 1000000 in
theorem markImage_c (m : Img) (B : Nat) (vc vd vn : Value) (w : World) (h : IOwn w B vc vd vn m) (hs : Sm m) :
    Calls Try.prog 17 #[imgVal vc vd vn m, .int .i64 1] w fun e w' => e = .returned (.int .i64 (markEnd m)) ∧ IOwn w' B vc vd vn (marked m) ∧ Only (inImg vc vd vn) w w' := by
  have hlc := hs.c
  have hld := hs.d
  have hln := hs.n
  have HO0 := hid (h.on ((Below.refl _ _).alloc (Nat.le_refl _) (.cells #[vc, .int .i64 m.entry, .int .i64 m.room, vd, vn] 41)))
  have HX0 := hid (Row.new w 41 #[vc, .int .i64 m.entry, .int .i64 m.room, vd, vn])
  have HN0 := hid (show Only (inImg vc vd vn) w (w.alloc (.cells #[vc, .int .i64 m.entry, .int .i64 m.room, vd, vn] 41)) from .of_below ((Below.refl _ _).alloc (Nat.le_refl _) _))
  have HLt := hid (fun g hg => (h.lt g hg).2)
  have HNe := hid h.ne
  have HNc := hid (own_apart h.c h.n int_ne_name)
  have HNd := hid (own_apart h.d h.n int_ne_name)
  have hz0 : w.heap.size < (w.alloc (.cells #[vc, .int .i64 m.entry, .int .i64 m.room, vd, vn] 41)).heap.size := by simp
  clear h hs
  unfold imgVal
  go_enter Try.func17, Try.ntmps17
  go_wp2_with fail
  refine (markIntS_k B 1 m.code vc _ HO0.out.c hlc (by omega)).mono ?_
  rintro e w1 ⟨rfl, hown1, hb1⟩
  have HC1 := hid hown1
  have HD1 := hid (own_only HO0.out.d (fun g hd hc => HNe.out g hc hd) hb1)
  have HM1 := hid (own_only HO0.out.n (fun g hn hc => HNc.out g hc hn) hb1)
  have HX1 := hid (row_only HX0.out (fun hc => by have := HLt.out _ (.inl hc); omega) hb1)
  have HN1 := hid (HN0.out.trans (hb1.mono (fun g hg => .inl hg)))
  have hz1 := hb1.size
  clear hown1 hb1
  obtain ⟨s1, hs1⟩ : ∃ s, 1 + m.code.length = s := ⟨_, rfl⟩
  have HS1 := hid hs1
  have hb1 : s1 ≤ 2097152 := by omega
  have hp1 : 0 < s1 := by omega
  rw [hs1]
  clear hs1
  have x3 := HX1.out.cell 3
  simp at x3
  go_wp2_with fail
  refine (markIntS_k B s1 m.data vd _ HD1.out hld (by omega)).mono ?_
  rintro e w2 ⟨rfl, hown2, hb2⟩
  have HC2 := hid (own_only HC1.out (fun g hc hd => HNe.out g hc hd) hb2)
  have HD2 := hid hown2
  have HM2 := hid (own_only HM1.out (fun g hn hd => HNd.out g hd hn) hb2)
  have HX2 := hid (row_only HX1.out (fun hc => by have := HLt.out _ (.inr (.inl hc)); omega) hb2)
  have HN2 := hid (HN1.out.trans (hb2.mono (fun g hg => .inr (.inl hg))))
  clear hown2 hb2 x3
  obtain ⟨s2, hs2⟩ : ∃ s, s1 + m.data.length = s := ⟨_, rfl⟩
  have HS2 := hid hs2
  have hb2 : s2 ≤ 4194304 := by omega
  have hp2 : 0 < s2 := by omega
  rw [hs2]
  clear hs2
  have x4 := HX2.out.cell 4
  simp at x4
  go_wp2_with fail
  refine (markNameS_c B s2 m.names vn _ HM2.out hln hp2 (by omega)).mono ?_
  rintro e w3 ⟨rfl, hown3, hb3⟩
  have HC3 := hid (own_only HC2.out (fun g hc hn => HNc.out g hc hn) hb3)
  have HD3 := hid (own_only HD2.out (fun g hd hn => HNd.out g hd hn) hb3)
  have HM3 := hid hown3
  have HN3 := hid (HN2.out.trans (hb3.mono (fun g hg => .inr (.inr hg))))
  clear hown3 hb3 x4
  go_wp2_with fail
  go_ret
  refine ⟨int_eq (by have := HS1.out; have := HS2.out; unfold markEnd; omega), ⟨?_, ?_, ?_, HNe.out⟩, HN3.out⟩
  · show w3.ownsRow B 3 1 vc (upFrom _ _).length _
    rw [upFrom_len]
    exact HC3.out
  · show w3.ownsRow B 3 1 vd (upFrom _ _).length (ints (upFrom ((1 + m.code.length : Nat) : Int) m.data.length))
    rw [upFrom_len, HS1.out]
    exact HD3.out
  · show w3.ownsRow B 77 2 vn (nmMarks _ _).length (nmCells (nmMarks (1 + m.code.length + m.data.length) m.names.length))
    rw [nmMarks_len, HS1.out, HS2.out]
    exact HM3.out
theorem mul_marked (m : Img) : (marked m).code.length = m.code.length ∧ (marked m).data.length = m.data.length ∧ (marked m).names.length = m.names.length :=
  ⟨upFrom_len _ _, upFrom_len _ _, nmMarks_len _ _⟩
set_option maxHeartbeats 1000000 in
theorem heldImage_c (m : Img) (vc vd vn : Value) (e0 r0 : Int) (w : World) (h : ICells w vc vd vn (marked m)) (hs : Sm m) :
    Calls Try.prog 23 #[.agg #[vc, .int .i64 e0, .int .i64 r0, vd, vn], .int .i64 1] w fun e w' => e = .returned (.int .i64 (markEnd m)) ∧ Below w.heap.size w w' := by
  have hlc := hs.c
  have hld := hs.d
  have hln := hs.n
  have HO0 := hid (h.alloc (.cells #[vc, .int .i64 e0, .int .i64 r0, vd, vn] 41))
  have HX0 := hid (Row.new w 41 #[vc, .int .i64 e0, .int .i64 r0, vd, vn])
  have HB0 := hid ((Below.refl w.heap.size w).alloc (Nat.le_refl _) (.cells #[vc, .int .i64 e0, .int .i64 r0, vd, vn] 41))
  clear h hs
  go_enter Try.func23, Try.ntmps23
  go_wp2_with fail
  refine (heldIntS_k 1 m.code.length vc _ HO0.out.c hlc (by omega)).mono ?_
  rintro e w1 ⟨rfl, rfl⟩
  obtain ⟨s1, hs1⟩ : ∃ s, 1 + m.code.length = s := ⟨_, rfl⟩
  have HS1 := hid hs1
  have hb1 : s1 ≤ 2097152 := by omega
  have hp1 : 0 < s1 := by omega
  rw [hs1]
  clear hs1
  go_wp2_with fail
  refine (heldIntS_k s1 m.data.length vd _ (by have := HO0.out.d; unfold marked at this; rw [HS1.out] at this; exact this) hld (by omega)).mono ?_
  rintro e w2 ⟨rfl, rfl⟩
  obtain ⟨s2, hs2⟩ : ∃ s, s1 + m.data.length = s := ⟨_, rfl⟩
  have HS2 := hid hs2
  have hb2 : s2 ≤ 4194304 := by omega
  have hp2 : 0 < s2 := by omega
  rw [hs2]
  clear hs2
  go_wp2_with fail
  refine (heldNameS_c s2 m.names.length vn _ (by have := HO0.out.n; unfold marked at this; rw [HS1.out, HS2.out] at this; exact this) hln hp2 (by omega)).mono ?_
  rintro e w3 ⟨rfl, hb3⟩
  have HB3 := hid (HB0.out.trans (hb3.mono HB0.out.size))
  clear hb3
  go_wp2_with fail
  go_ret
  exact ⟨int_eq (by have := HS1.out; have := HS2.out; unfold markEnd; omega), HB3.out⟩
end Go.Proofs.Ytadcepgeodcacaa.Im
