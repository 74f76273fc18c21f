/- Walks: a chunk behind a text. -/
import Derived.Test.YtlnglpphlcebdafDoorCk2
import Derived.Test.YtlnglpphlcebdafDoorOm
namespace Go.Proofs.YtlnglpphlcebdafDoor
open Go.RowKit

set_option maxHeartbeats 1000000 in
theorem putNumber_any (B n : Nat) (v : Value) (l : List UInt8) (w : World) (hown : OwnM w B v l) (hB : B ≤ w.heap.size) (hn : n < 4294967296) (hl : l.length ≤ 300000) :
    Calls Tryd.prog 58 #[v, .int .u32 (n : Int)] w fun e w' => ∃ v', e = .returned v' ∧ OwnM w' B v' (l ++ Ck.be n) ∧ Below B w w' := by
  obtain ⟨a, ha⟩ : ∃ a, a = n / 16777216 := ⟨_, rfl⟩
  obtain ⟨qb, hqb⟩ : ∃ b, b = n / 65536 := ⟨_, rfl⟩
  obtain ⟨qc, hqc⟩ : ∃ c, c = n / 256 := ⟨_, rfl⟩
  obtain ⟨b, hb⟩ : ∃ b, b = qb % 256 := ⟨_, rfl⟩
  obtain ⟨c, hc⟩ : ∃ c, c = qc % 256 := ⟨_, rfl⟩
  obtain ⟨d, hd⟩ : ∃ d, d = n % 256 := ⟨_, rfl⟩
  have e1 : (n : Int) / 16777216 = (a : Int) := by omega
  have e2 : (n : Int) / 65536 = (qb : Int) := by omega
  have e3 : (n : Int) / 256 = (qc : Int) := by omega
  have e4 : (qb : Int) % 256 = (b : Int) := by omega
  have e5 : (qc : Int) % 256 = (c : Int) := by omega
  have e6 : (n : Int) % 256 = (d : Int) := by omega
  have l1 : a < 256 := by omega
  have e7 : (a : Int) % 256 = (a : Int) := by omega
  have HC : Hid (∀ j u, (byteVals (Ck.be n))[j]? = some u → (w.alloc (.cells #[.int .u8 (a : Int), .int .u8 (b : Int), .int .u8 (c : Int), .int .u8 (d : Int)] 5)).cell? ⟨w.heap.size, j, none⟩ = some u) := by
    intro j u hu
    have h2 := heap_alloc_new w (.cells #[.int .u8 (a : Int), .int .u8 (b : Int), .int .u8 (c : Int), .int .u8 (d : Int)] 5)
    simp only [World.cell?, h2]
    have ev : byteVals (Ck.be n) = [.int .u8 (a : Int), .int .u8 (b : Int), .int .u8 (c : Int), .int .u8 (d : Int)] := by
      have t1 : (UInt8.ofNat (n / 16777216)).toNat = a := by rw [UInt8.toNat_ofNat']; omega
      have t2 : (UInt8.ofNat (n / 65536)).toNat = b := by rw [UInt8.toNat_ofNat']; omega
      have t3 : (UInt8.ofNat (n / 256)).toNat = c := by rw [UInt8.toNat_ofNat']; omega
      have t4 : (UInt8.ofNat n).toNat = d := by rw [UInt8.toNat_ofNat']; omega
      simp only [byteVals, Ck.be, List.map_cons, List.map_nil, t1, t2, t3, t4]
    rw [ev] at hu
    simpa using hu
  have hb0 : Below w.heap.size w (w.alloc (.cells #[.int .u8 (a : Int), .int .u8 (b : Int), .int .u8 (c : Int), .int .u8 (d : Int)] 5)) := (Below.refl _ _).alloc (Nat.le_refl _) _
  have HB0 := hide hb0
  have HO := hide (hown.below hb0)
  have HIN := hide (fun k e => (hown.lt k e).1)
  clear ha hb hc hd hqb hqc hown hb0
  go_enter Tryd.func58, Tryd.ntmps58
  go_wp2_with (at_builtin; refine wpList_appMn _ rfl (.tmp 5) (.tmp 17) rfl B w.heap.size 4 v l (Ck.be n) rfl rfl rfl (unhide HO) (unhide HC) (by rw [Ck.be_length]; omega) (Nat.le_trans hB (unhide HB0).size) ?_)
  intro v' w' ho' hg'
  have HB2 := hide (((unhide HB0).mono hB).grown hg' (Nat.le_trans hB (unhide HB0).size) (unhide HIN))
  have HO2 : Hid (OwnM w' B v' (l ++ Ck.be n)) := ho'
  clear ho' hg' HO HC
  go_wp2
  go_ret
  exact ⟨_, rfl, unhide HO2, unhide HB2⟩

set_option maxHeartbeats 1000000 in
theorem put_any (B : Nat) (v : Value) (l : List UInt8) (k d : ByteArray) (w : World) (hown : OwnM w B v l) (hB : B ≤ w.heap.size) (hk : k.size = 4) (hl : l.length + 12 + d.size ≤ 300000) :
    Calls Tryd.prog 40 #[v, .agg #[.string k, .string d]] w fun e w' => ∃ v', e = .returned v' ∧ OwnM w' B v' (l ++ Ck.one k.data.toList d.data.toList) ∧ Below B w w' := by
  have hd3 : d.size ≤ 300000 := by omega
  have hsum : ¬ (9223372036854775807 < k.size + d.size) := by omega
  have hwr : IntKind.u32.wrap (d.size : Int) = (d.size : Int) := by rw [IntKind.wrap_u32]; omega
  have hmod : (d.size : Int) % 4294967296 = (d.size : Int) := by omega
  have hb0 : Below w.heap.size w (w.alloc (.cells #[.string k, .string d] 70)) := (Below.refl _ _).alloc (Nat.le_refl _) _
  have hB0 : B ≤ (w.alloc (.cells #[.string k, .string d] 70)).heap.size := Nat.le_trans hB hb0.size
  have HX := hide (putNumber_any B d.size v l (w.alloc (.cells #[.string k, .string d] 70)) (hown.below hb0) hB0 (by omega) (by omega))
  have HB0 := hide (hb0.mono hB)
  clear hown hb0
  have hds : d.data.toList.length = d.size := Array.length_toList
  have hks : k.data.toList.length = k.size := Array.length_toList
  have hap : (k ++ d).data.toList = k.data.toList ++ d.data.toList := by simp
  have hapz : (k ++ d).size = k.size + d.size := by simp
  have HAP := hide hap
  have HAZ := hide hapz
  have HDS := hide hds
  clear hap hapz hds
  go_enter Tryd.func40, Tryd.ntmps40
  go_wp2_with fail
  refine (unhide HX).mono ?_; rintro e w1 ⟨v1, rfl, ho1, hb1⟩
  have HO1 := hide ho1
  have hB1 : B ≤ w1.heap.size := Nat.le_trans hB0 hb1.size
  have HB1 := hide ((unhide HB0).trans hb1)
  clear HX ho1 hb1 HB0 hB0
  generalize hkd : k ++ d = kdb at *
  have HKD := hide hkd
  clear hkd
  go_wp2_with (at_builtin; refine wpList_appM _ rfl (.tmp 17) (.tmp 18) rfl B v1 (l ++ Ck.be d.size) kdb rfl rfl (unhide HO1) (by rw [List.length_append, Ck.be_length, unhide HAZ]; omega) hB1 ?_)
  intro v2 w2 ho2 hg2 _
  have HB2 := hide ((unhide HB1).grown hg2 hB1 (fun k e => ((unhide HO1).lt k e).1))
  have HO2 : Hid (OwnM w2 B v2 (l ++ (Ck.be d.size ++ kdb.data.toList))) := by
    show OwnM _ _ _ _
    first
      | exact ho2
      | (rw [← List.append_assoc]; exact ho2)
  have hB2 : B ≤ w2.heap.size := Nat.le_trans hB1 hg2.size
  clear ho2 hg2 HB1 HO1
  have HX := hide (crc_any kdb w2 (by rw [unhide HAZ]; unfold maxLen; omega))
  go_wp2_with fail
  refine (unhide HX).mono ?_; rintro e w3 ⟨rfl, hb3⟩
  have HB3 := hide ((unhide HB2).trans (hb3.mono hB2))
  have HO3 := hide ((unhide HO2).below hb3)
  have hB3 : B ≤ w3.heap.size := Nat.le_trans hB2 hb3.size
  have HX := hide (putNumber_any B (crcOf kdb.data.toList) v2 _ w3 (unhide HO3) hB3 (Ck.crcOf_lt _) (by rw [List.length_append, List.length_append, Ck.be_length, unhide HAP, List.length_append, hks, unhide HDS]; omega))
  clear hb3 HB2 HO2
  go_wp2_with fail
  refine (unhide HX).mono ?_; rintro e w4 ⟨v4, rfl, ho4, hb4⟩
  have HB4 := hide ((unhide HB3).trans hb4)
  have HO4 := hide ho4
  clear ho4 hb4 HX HB3 HO3
  go_wp2
  go_ret
  refine ⟨_, rfl, ?_, unhide HB4⟩
  have := unhide HO4
  rw [unhide HAP, ← unhide HDS, List.append_assoc, List.append_assoc] at this
  exact this
end Go.Proofs.YtlnglpphlcebdafDoor
