import Derived.Test.YtpipjkpjpkgmpaaDoorCoMN
namespace Go.Proofs.YtpipjkpjpkgmpaaDoor
open Go.RowKit

/-- What one call of each of the readers gives, opened. -/
theorem UnhexPost.opens {l : List Nat} {w w' : World} {e : Ending} (h : UnhexPost l w e w') : ∃ (a : Option Addr) (c : Nat) (k : Int) (b : List Nat), e = .returned (.tuple #[.slice a b.length c, .int .i64 k]) ∧ Below w.heap.size w w' ∧ own8 w' w.heap.size (.slice a b.length c) b ∧ UnhexTells l k b ∧ b.length ≤ l.length ∧ b.length ≤ c ∧ Rd .u8 w' a b ∧ (a = none → c = 0) ∧ c ≤ 9223372036854775807 := by
  obtain ⟨hb, v, k, b, rfl, ho, ht, hl⟩ := h
  obtain ⟨a, c, rfl, h1, h2, h3, h4⟩ := own8_open ho
  exact ⟨a, c, k, b, rfl, hb, ho, ht, hl, h1, h2, h3, h4⟩
theorem Un64Post.opens {l : List Nat} {w w' : World} {e : Ending} (h : Un64Post l w e w') : ∃ (a : Option Addr) (c : Nat) (k : Int) (b : List Nat), e = .returned (.tuple #[.slice a b.length c, .int .i64 k]) ∧ Below w.heap.size w w' ∧ own8 w' w.heap.size (.slice a b.length c) b ∧ Un64Tells l k b ∧ b.length ≤ l.length ∧ b.length ≤ c ∧ Rd .u8 w' a b ∧ (a = none → c = 0) ∧ c ≤ 9223372036854775807 := by
  obtain ⟨hb, v, k, b, rfl, ho, ht, hl⟩ := h
  obtain ⟨a, c, rfl, h1, h2, h3, h4⟩ := own8_open ho
  exact ⟨a, c, k, b, rfl, hb, ho, ht, hl, h1, h2, h3, h4⟩
theorem lit1 : UnhexTells (bsN ⟨#[48, 48, 102, 70, 49, 65]⟩) 0 [0, 255, 26] := .inl ⟨rfl, (fun x hx => by simp at hx; omega), rfl⟩
theorem lit2 : Un64Tells (bsN ⟨#[84, 87, 69, 61]⟩) 0 [77, 97] := .inl ⟨rfl, (fun x hx => by simp at hx; omega), rfl⟩
theorem lit3 : UnhexTells (bsN ⟨#[48]⟩) 60 [] := unhex_odd rfl
theorem lit4 : Un64Tells (bsN ⟨#[84, 82, 61, 61]⟩) 61 [] :=
  un64_bits (u := [84, 82]) (ws := [19, 17]) ⟨2, by omega, rfl, fun h => by omega⟩ (fun x hx => by simp at hx; omega) rfl (by decide)
theorem Rd.lit8 {w : World} (T : TypeId) (xs : List Nat) (cs : Array Value) (hc : cs = (u8s xs).toArray) : Rd .u8 (w.alloc (.cells cs T)) (some ⟨w.heap.size, 0, none⟩) xs := fun j hj => ⟨w.heap.size, 0, rfl, fun i hi => by
  rw [World.cell?_alloc_at _ _ _ _ rfl, hc]
  simp [u8s, hi, List.getD]⟩

set_option maxHeartbeats 4000000 in
set_option maxRecDepth 100000 in
theorem works6_any (w : World) (hH : HT w) (hB : BT w) :
    Calls Tryd.prog 28 #[] w fun e w' => e = .returned (.bool true) ∧ Below w.heap.size w w' := by
  have HH := Lib.hid hH
  have HB := Lib.hid hB
  clear hH hB
  go_enter Tryd.func28, Tryd.ntmps28
  go_wp2_with fail
  refine (unhex_any _ 6 _ rfl (by decide) HH.out).mono ?_
  intro e w1 hp
  obtain ⟨a1, c1, k1, b1, rfl, hb1, ho1, ht1, -, hc1, hr1, hn1, hm1⟩ := hp.opens
  obtain ⟨rfl, rfl⟩ := ht1.one lit1
  have HR1 := Lib.hid hr1
  have HBW := Lib.hid hb1
  have HH := Lib.hid (HH.out.below hb1)
  have HB := Lib.hid (HB.out.below hb1)
  have hl1 : ([0, 255, 26] : List Nat).length = 3 := rfl
  rw [hl1] at hc1
  rw [hl1]
  clear hp ht1 hr1 hn1 hb1 ho1 hl1
  go_wp2_with fail
  refine (un64_any _ 4 _ rfl (by decide) HB.out).mono ?_
  intro e w2 hp
  obtain ⟨a2, c2, k2, b2, rfl, hb2, ho2, ht2, -, hc2, hr2, hn2, hm2⟩ := hp.opens
  obtain ⟨rfl, rfl⟩ := ht2.one lit2
  have HR1 := Lib.hid (HR1.out.below hb2)
  have HO2 := Lib.hid ho2
  have HBW := Lib.hid (HBW.out.trans (hb2.mono HBW.out.size))
  have HH := Lib.hid (HH.out.below hb2)
  have HB := Lib.hid (HB.out.below hb2)
  have hl2 : ([77, 97] : List Nat).length = 2 := rfl
  rw [hl2] at hc2 HO2
  rw [hl2]
  clear hp ht2 hr2 hn2 hb2 ho2 hl2
  go_wp2_with fail
  refine (unhex_any _ 1 _ rfl (by decide) HH.out).mono ?_
  intro e w3 hp
  obtain ⟨a3, c3, k3, b3, rfl, hb3, -, ht3, -, -, -, -, -⟩ := hp.opens
  obtain ⟨rfl, rfl⟩ := ht3.one lit3
  have HR1 := Lib.hid (HR1.out.below hb3)
  have HO2 := Lib.hid ((Chg.of_below hb3).owns HO2.out (fun k hk => by have := (World.ownsRow.lt HO2.out k hk).2; omega))
  have HBW := Lib.hid (HBW.out.trans (hb3.mono HBW.out.size))
  have HH := Lib.hid (HH.out.below hb3)
  have HB := Lib.hid (HB.out.below hb3)
  clear hp ht3 hb3
  go_wp2_with fail
  refine (un64_any _ 4 _ rfl (by decide) HB.out).mono ?_
  intro e w4 hp
  obtain ⟨a4, c4, k4, b4, rfl, hb4, -, ht4, -, -, -, -, -⟩ := hp.opens
  obtain ⟨rfl, rfl⟩ := ht4.one lit4
  have HR1 := Lib.hid (HR1.out.below hb4)
  have HO2 := Lib.hid ((Chg.of_below hb4).owns HO2.out (fun k hk => by have := (World.ownsRow.lt HO2.out k hk).2; omega))
  have HBW := Lib.hid (HBW.out.trans (hb4.mono HBW.out.size))
  clear hp ht4 hb4 HH HB
  go_wp2_with fail
  refine (hex_any a1 3 c1 [0, 255, 26] _ rfl (by decide) HR1.out (fun x hx => by simp at hx; omega)).mono ?_
  rintro e w5 ⟨rfl, hb5⟩
  rw [show strN (hexL [0, 255, 26]) = ⟨#[48, 48, 102, 102, 49, 97]⟩ from rfl]
  have HO2 := Lib.hid ((Chg.of_below hb5).owns HO2.out (fun k hk => by have := (World.ownsRow.lt HO2.out k hk).2; omega))
  have HBW := Lib.hid (HBW.out.trans (hb5.mono HBW.out.size))
  clear hb5 HR1
  go_wp2_with fail
  refine (base64_any (some ⟨w5.heap.size, 0, none⟩) 3 3 [255, 255, 254] _ rfl (by decide) (by decide) (by decide) (fun h => by cases h) (Rd.lit8 _ _ _ rfl) (fun x hx => by simp at hx; omega)).mono ?_
  rintro e w6 ⟨rfl, hb6⟩
  rw [show strN (b64L [255, 255, 254]) = ⟨#[47, 47, 47, 43]⟩ from rfl]
  have HO2 := Lib.hid ((Chg.of_below hb6).owns (HO2.out.alloc (.cells #[.int .u8 255, .int .u8 255, .int .u8 254] 5)) (fun k hk => by have := (World.ownsRow.lt HO2.out k hk).2; simp; omega))
  have HBW := Lib.hid ((HBW.out.alloc HBW.out.size (.cells #[.int .u8 255, .int .u8 255, .int .u8 254] 5)).trans (hb6.mono (by simp; have := HBW.out.size; omega)))
  clear hb6
  have ht := own_text HO2.out rfl
  rw [show strN [77, 97] = ⟨#[77, 97]⟩ from rfl] at ht
  go_wp2
  go_ret
  exact ⟨rfl, HBW.out⟩
end Go.Proofs.YtpipjkpjpkgmpaaDoor
