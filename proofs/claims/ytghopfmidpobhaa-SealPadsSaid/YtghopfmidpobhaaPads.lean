/-
  The law on zeros behind a body.
-/
import Derived.Test.YtghopfmidpobhaaBag
namespace Go.Proofs.Ytghopfmidpobhaa
open Go.RowKit BigFrame

theorem front_pad {kind k : Nat} {l : List Nat} (h : l.length + k ≤ 123) : front kind (l ++ zs k) = front kind l := by
  unfold front
  rw [List.append_assoc]
  congr 2
  unfold zs
  rw [List.length_append, List.length_replicate, List.replicate_append_replicate]
  congr 1
  omega
theorem sealed_pad {kind k : Nat} {l : List Nat} (h : l.length + k ≤ 123) : sealed kind (l ++ zs k) = sealed kind l := by
  unfold sealed; rw [front_pad h]

theorem pads_long (kind : Int) (a : Option Addr) (cap n : Nat) (z : Int) (w : World) (hl : 123 < n) :
    Calls Try.prog 6 #[.int .u8 kind, .slice a n cap, .int .i64 z] w (Woke w) := by
  go_enter Try.func6, Try.ntmps6
  go_wp2_with (go_at_call 7; refine (awake_any _).mono ?_; rintro e w1 ⟨rfl, hb⟩)
  go_ret
  exact ⟨rfl, by assumption⟩
theorem pads_zero (a : Option Addr) (cap n : Nat) (z : Int) (w : World) (hl : n ≤ 123) :
    Calls Try.prog 6 #[.int .u8 0, .slice a n cap, .int .i64 z] w (Woke w) := by
  go_enter Try.func6, Try.ntmps6
  go_wp2_with (go_at_call 7; refine (awake_any _).mono ?_; rintro e w1 ⟨rfl, hb⟩)
  go_ret
  exact ⟨rfl, by assumption⟩

set_option maxHeartbeats 1000000 in
theorem pads_main (kind : Nat) (a : Option Addr) (cap n : Nat) (l : List Nat) (z : Int) (w : World) (hk0 : 0 < kind) (hk : kind < 256) (hn : l.length = n) (hl : n ≤ 123) (ho : Octs l) (hx : BAt w a l) (hnil : a = none → cap = 0) :
    Calls Try.prog 6 #[.int .u8 (kind : Int), .slice a n cap, .int .i64 z] w (Woke w) := by
  have t1 : ((kind : Int) == 0) = false := by rw [beq_eq_false_iff_ne]; omega
  have hs := Lib.hid (sealed_length (kind := kind) (l := l) (by omega))
  have hso := Lib.hid (sealed_octs (kind := kind) (l := l) hk ho)
  have hsk := Lib.hid (kindOf_sealed (kind := kind) (l := l) (by omega))
  have hbl := Lib.hid (bodyOf_length hs.out)
  have hbo := Lib.hid (show Octs (bodyOf (sealed kind l)) from (hso.out.drop 1).take 123)
  have hbs := Lib.hid (show sealed kind (bodyOf (sealed kind l)) = sealed kind l by rw [bodyOf_sealed (by omega), sealed_pad (by omega)])
  have hx' := Lib.hid hx
  have ho' := Lib.hid ho
  have hn' := Lib.hid hn
  have hnil' := Lib.hid hnil
  clear hx ho hn hnil
  go_enter Try.func6, Try.ntmps6
  go_wp2_with (first
    | (go_at_call 20; refine (low_c z _ (124 - n) _ (by omega) (by omega) (by omega)).mono ?_; rintro e w1 ⟨k, hkk, rfl, rfl⟩; have hpad := Lib.hid (sealed_pad (kind := kind) (k := k) (l := l) (by rw [hn'.out]; omega)))
    | (go_at_call_of 9 a; refine (seal_n kind a cap l w hn'.out hk0 hk ho'.out hl hx'.out).mono ?_; rintro e w1 ⟨g1, rfl, hg1, hr1, hb1⟩; have B1 := Lib.hid ((Bag.start w).add hb1 hg1 hr1); clear hr1 hb1 hg1)
    | (at_builtin; refine wpList_append_bytes rfl (.const (.slice none 0 0)) (.tmp 37) rfl w1.heap.size (.slice none 0 0) [] rfl (OwnB.nil _ _) a n cap l rfl hn'.out (B1.out.arg hx'.out) hnil'.out (by simp; omega) (Nat.le_refl _) ?_; intro v2 w2 hv2 _ hb2; have hz2 := hb2.size; have hb2' := Lib.hid hb2; clear hb2)
    | (at_builtin; refine wpList_append_zeros_any rfl (.tmp 38) (.tmp 39) rfl w1.heap.size k v2 l rfl hv2.out rfl (by rw [hn'.out]; omega) hz2 ?_))
  intro v3 w3 hv3 _ hb3
  have B3 := Lib.hid (B1.out.on (hb2'.out.trans hb3))
  obtain ⟨a3, c3, hv, hb3a, hnil3, hc3⟩ := hv3.out.slice
  obtain ⟨n3, hn3⟩ : ∃ n3, (l ++ zs k).length = n3 := ⟨_, rfl⟩
  rw [hn3] at hv hc3
  have hln3 : n3 ≤ 123 := by rw [← hn3, List.length_append, zs_length, hn'.out]; omega
  rw [hv]
  have hn3' := Lib.hid hn3
  have hb3a' := Lib.hid hb3a
  have ho3 := Lib.hid (ho'.out.append (Octs.rep k 0 (by omega)))
  clear hb3 hn3 hb3a hnil3 hv3 hv2 hv hb2' B1
  go_wp2_with (first
    | (go_at_call_of 9 a3; refine (seal_n kind a3 c3 (l ++ zs k) w3 hn3'.out hk0 hk ho3.out hln3 hb3a'.out).mono ?_; rintro e w4 ⟨g2, rfl, hg2, hr2, hb4⟩; rw [hpad.out] at hr2; have B4 := Lib.hid (B3.out.add hb4 hg2 hr2); clear hr2 hb4 hg2)
    | (go_at_call 11; refine (open_good kind _ _ 128 _ w4 hs.out hk0 hsk.out hso.out (by omega) B4.out.r1.bat).mono ?_; rintro e w5 ⟨g3, rfl, hg3, hr3, hb5⟩; have B5 := Lib.hid (B4.out.add hb5 hg3 hr3); clear hr3 hb5 hg3)
    | (go_at_call_of 9 g3; refine (seal_n kind _ 123 (bodyOf (sealed kind l)) w5 hbl.out hk0 hk hbo.out (by omega) B5.out.r0.bat).mono ?_; rintro e w6 ⟨g4, rfl, hg4, hr4, hb6⟩; rw [hbs.out] at hr4; have B6 := Lib.hid (B5.out.add hb6 hg4 hr4); clear hr4 hb6 hg4)
    | (go_at_call_of 13 g2; refine (same_same (some ⟨g1, 0, none⟩) (some ⟨g2, 0, none⟩) _ _ _ (sealed kind l) (sealed kind l) w6 hs.out rfl (by omega) B6.out.r3.bat B6.out.r2.bat).mono ?_; rintro e w7 ⟨rfl, hb7⟩; have B7 := Lib.hid (B6.out.on hb7); clear hb7)
    | (go_at_call_of 13 g4; refine (same_same (some ⟨g1, 0, none⟩) (some ⟨g4, 0, none⟩) _ _ _ (sealed kind l) (sealed kind l) w7 hs.out rfl (by omega) B7.out.r3.bat B7.out.r0.bat).mono ?_; rintro e w8 ⟨rfl, hb8⟩; have B8 := Lib.hid (B7.out.on hb8); clear hb8; have c0 := B8.out.r3.cell (k := 0) (by rw [hs.out]; omega); rw [sealed_zero] at c0)
    | (go_at_call 14; refine (kind_b (some ⟨g4, 0, none⟩) _ _ w8 hsk.out hs.out hso.out (by omega) B8.out.r0.bat).mono ?_; rintro e w9 ⟨rfl, hb9⟩; have B9 := Lib.hid (B8.out.on hb9); clear hb9)
    | (go_at_call 7; refine (awake_any w9).mono ?_; rintro e w10 ⟨rfl, hb10⟩; have hend := Lib.hid (B9.out.low hb10); clear hb10))
  go_ret
  exact ⟨rfl, hend.out⟩

theorem pads_any (kind : Nat) (a : Option Addr) (cap : Nat) (l : List Nat) (z : Int) (w : World) (hk : kind < 256) (ho : Octs l) (hx : BAt w a l) (hnil : a = none → cap = 0) :
    Calls Try.prog 6 #[.int .u8 (kind : Int), .slice a l.length cap, .int .i64 z] w (Woke w) := by
  by_cases hl : 123 < l.length
  · exact pads_long _ a cap _ z w hl
  · by_cases h0 : kind = 0
    · subst h0; exact pads_zero a cap _ z w (by omega)
    · exact pads_main kind a cap _ l z w (by omega) hk rfl (by omega) ho hx hnil
end Go.Proofs.Ytghopfmidpobhaa
