/- Powers and logarithms of the eighths from -8 to 8, reckoned case by case: what the law on powers asks of them. No condition. -/
import Derived.Test.YtncbohecppdfnaaLog2
import Derived.Test.YtncbohecppdfnaaFloatSub
import Derived.Test.YtncbohecppdfnaaRoot
namespace Go.Proofs.Ytncbohecppdfnaa
open Go.RowKit FloatKit

def forceP (n : Nat) (f : Nat → Bool) : Bool := match n with
  | 0 => f 0
  | m + 1 => f (m + 1)
theorem forceP_is (n : Nat) (f : Nat → Bool) : forceP n f = f n := by cases n <;> rfl
def real4 (x : Nat) : Bool := !(isNaN Ieee.single x)
def real8 (x : Nat) : Bool := !(isNaN Ieee.double x)
def less8 (x y : Nat) : Bool := FloatKind.f64.format.order x y == some Ordering.lt
/-- An eighth. -/
def eighth (i : Int) : Nat := fop .quo .f32 (floatOfInt .f32 i) 1090519040
def expP (t : Nat) : Nat → Nat
  | 0 => 4607182418800017408
  | j + 1 => fop .add .f64 4607182418800017408 (fop .quo .f64 (fop .mul .f64 t (expP t j)) (floatOfInt .f64 ((12 - j : Nat) : Int)))
def sqP (p : Nat) : Nat → Nat
  | 0 => p
  | j + 1 => fop .mul .f64 (sqP p j) (sqP p j)
def expD (x : Nat) : Nat := sqP (expP (fop .quo .f64 (widen x) 4643211215818981376) 12) 8
def expW (t : Nat) : Nat → Nat → Nat → (Nat → Bool) → Bool
  | 0, _, p, K => K p
  | f + 1, j, p, K => forceP (fop .mul .f64 t p) fun a => forceP (fop .quo .f64 a (floatOfInt .f64 ((12 - j : Nat) : Int))) fun b => forceP (fop .add .f64 4607182418800017408 b) fun c => expW t f (j + 1) c K
theorem expW_is (t : Nat) (K : Nat → Bool) : ∀ f j, expW t f j (expP t j) K = K (expP t (j + f))
  | 0, _ => rfl
  | f + 1, j => by
    unfold expW
    rw [forceP_is, forceP_is, forceP_is]
    have := expW_is t K f (j + 1)
    rw [show j + 1 + f = j + (f + 1) by omega] at this
    exact this
def sqW : Nat → Nat → (Nat → Bool) → Bool
  | 0, p, K => K p
  | f + 1, p, K => forceP (fop .mul .f64 p p) fun q => sqW f q K
theorem sqW_is (p : Nat) (K : Nat → Bool) : ∀ f j, sqW f (sqP p j) K = K (sqP p (j + f))
  | 0, _ => rfl
  | f + 1, j => by
    unfold sqW
    rw [forceP_is]
    have := sqW_is p K f (j + 1)
    rw [show j + 1 + f = j + (f + 1) by omega] at this
    exact this
def narOk (d : Nat) : Bool := match Ieee.double.read d with
  | .number s m e => !(Ieee.single.read (Ieee.single.write (.number s m e))).isInfinity
  | _ => false
def narW (d : Nat) : Nat := Ieee.single.write (Ieee.double.read d)
theorem nar_of {d r : Nat} (h : narOk d = true) (hn : Nar d r) : r = narW d := by
  unfold narOk at h
  obtain ⟨_, hn⟩ := hn
  unfold narW
  cases hd : Ieee.double.read d with
  | nan s t => rw [hd] at h; cases h
  | infinity s => rw [hd] at h; cases h
  | number s m e =>
    rw [hd] at h hn
    exact hn (by simpa using h)
def tabK : List Nat := [3238002688, 3237740544, 3237478400, 3237216256, 3236954112, 3236691968, 3236429824, 3236167680, 3235905536, 3235643392, 3235381248, 3235119104, 3234856960, 3234594816, 3234332672, 3234070528, 3233808384, 3233546240, 3233284096, 3233021952, 3232759808, 3232497664, 3232235520, 3231973376, 3231711232, 3231449088, 3231186944, 3230924800, 3230662656, 3230400512, 3230138368, 3229876224, 3229614080, 3229089792, 3228565504, 3228041216, 3227516928, 3226992640, 3226468352, 3225944064, 3225419776, 3224895488, 3224371200, 3223846912, 3223322624, 3222798336, 3222274048, 3221749760, 3221225472, 3220176896, 3219128320, 3218079744, 3217031168, 3215982592, 3214934016, 3213885440, 3212836864, 3210739712, 3208642560, 3206545408, 3204448256, 3200253952, 3196059648, 3187671040, 0, 1040187392, 1048576000, 1052770304, 1056964608, 1059061760, 1061158912, 1063256064, 1065353216, 1066401792, 1067450368, 1068498944, 1069547520, 1070596096, 1071644672, 1072693248, 1073741824, 1074266112, 1074790400, 1075314688, 1075838976, 1076363264, 1076887552, 1077411840, 1077936128, 1078460416, 1078984704, 1079508992, 1080033280, 1080557568, 1081081856, 1081606144, 1082130432, 1082392576, 1082654720, 1082916864, 1083179008, 1083441152, 1083703296, 1083965440, 1084227584, 1084489728, 1084751872, 1085014016, 1085276160, 1085538304, 1085800448, 1086062592, 1086324736, 1086586880, 1086849024, 1087111168, 1087373312, 1087635456, 1087897600, 1088159744, 1088421888, 1088684032, 1088946176, 1089208320, 1089470464, 1089732608, 1089994752, 1090256896, 1090519040]
def tabE : List Nat := [967827720, 969362444, 971101513, 973072137, 974191837, 975457003, 976890623, 978515128, 980355933, 981954487, 983136307, 984475485, 985992972, 987712511, 989661003, 990862339, 992113296, 993530815, 995137075, 996957207, 998632019, 999800566, 1001124704, 1002625149, 1004325375, 1006251984, 1007534039, 1008770946, 1010172546, 1011760767, 1013560457, 1015310670, 1016466094, 1017775360, 1019258954, 1020940085, 1022845057, 1024206924, 1025429940, 1026815799, 1028386182, 1030165660, 1031990428, 1033132876, 1034427438, 1035894369, 1037556620, 1039440198, 1040880981, 1042090262, 1043460556, 1045013303, 1046772796, 1048671281, 1049800898, 1051080921, 1052531378, 1054174960, 1056037383, 1057556197, 1058751896, 1060106801, 1061642109, 1063381841, 1065353216, 1066470146, 1067735794, 1069169961, 1070795084, 1072636591, 1074232558, 1075414828, 1076754516, 1078272582, 1079992775, 1081942010, 1083140607, 1084392041, 1085810101, 1087416973, 1089237798, 1090910051, 1092079044, 1093403686, 1094904703, 1096605577, 1098532920, 1099812267, 1101049646, 1102451780, 1104040606, 1105840981, 1107588665, 1108744529, 1110054295, 1111538453, 1113220225, 1115125923, 1116485113, 1117708595, 1119094981, 1120665963, 1122446119, 1124268386, 1125411269, 1126706325, 1128173815, 1129836699, 1131720994, 1133159130, 1134368872, 1135739688, 1137293027, 1139053190, 1140949202, 1142079249, 1143359761, 1144810770, 1146454979, 1148318112, 1149834307, 1151030462, 1152385883, 1153921776, 1155662171, 1157631101, 1158748457, 1160014587, 1161449300]
def tabL : List Nat := [3229614080, 3229089792, 3228565504, 3228041216, 3227516928, 3226992640, 3226468352, 3225944064, 3225419776, 3224895488, 3224371200, 3223846912, 3223322624, 3222798336, 3222274048, 3221749760, 3221225472, 3220176896, 3219128320, 3218079744, 3217031168, 3215982592, 3214934016, 3213885440, 3212836864, 3210739712, 3208642560, 3206545407, 3204448256, 3200253951, 3196059648, 3187671041, 0, 1040187389, 1048576000, 1052770305, 1056964607, 1059061760, 1061158913, 1063256064, 1065353215, 1066401792, 1067450368, 1068498944, 1069547520, 1070596096, 1071644672, 1072693248, 1073741824, 1074266112, 1074790400, 1075314688, 1075838976, 1076363264, 1076887552, 1077411840, 1077936128, 1078460416, 1078984704, 1079508992, 1080033280, 1080557568, 1081081856, 1081606144, 1082130432]

def expChk (i : Nat) : Bool := forceP (eighth ((i : Int) - 64)) fun x => (x == tabK.getD i 0) && (real4 x && (!(FloatKind.f32.format.order x 1128792064 == some Ordering.gt) && (!(FloatKind.f32.format.order x 3276275712 == some Ordering.lt) && (forceP (fop .quo .f64 (widen x) 4643211215818981376) fun t => real8 t && expW t 12 0 4607182418800017408 fun p => sqW 8 p fun d => real8 d && (narOk d && (narW d == tabE.getD i 0))))))
theorem exps0 : ∀ i, i < 43 → expChk (i + 0) = true := by decide +kernel
theorem exps1 : ∀ i, i < 43 → expChk (i + 43) = true := by decide +kernel
theorem exps2 : ∀ i, i < 43 → expChk (i + 86) = true := by decide +kernel
theorem exps (i : Nat) (h : i < 129) : expChk i = true := by
  rcases (show i < 43 ∨ (43 ≤ i ∧ i < 86) ∨ 86 ≤ i by omega) with h | ⟨h1, h2⟩ | h1
  · exact exps0 i h
  · have := exps1 (i - 43) (by omega)
    rwa [show i - 43 + 43 = i by omega] at this
  · have := exps2 (i - 86) (by omega)
    rwa [show i - 86 + 86 = i by omega] at this
/-- The law's gap. -/
def gapV (u v : Nat) : Nat := if less8 u v then fop .sub .f64 v u else fop .sub .f64 u v
def rowP (a x : Nat) : Nat → Bool
  | 0 => true
  | b + 1 => (forceP (widen (tabE.getD (b + 32) 0)) fun y => forceP (widen (tabE.getD (a + b) 0)) fun z => forceP (fop .mul .f64 x y) fun m => real8 m && (forceP (gapV m z) fun g => real8 g && (forceP (fop .mul .f64 4562254508917369340 z) fun q => real8 q && (less8 g q && (fop .add .f32 (tabK.getD (a + 32) 0) (tabK.getD (b + 32) 0) == tabK.getD (a + b) 0))))) && rowP a x b
def rowA (a : Nat) : Bool := forceP (widen (tabE.getD (a + 32) 0)) fun x => rowP a x 65
theorem rows0 : ∀ a, a < 13 → rowA (a + 0) = true := by decide +kernel
theorem rows1 : ∀ a, a < 13 → rowA (a + 13) = true := by decide +kernel
theorem rows2 : ∀ a, a < 13 → rowA (a + 26) = true := by decide +kernel
theorem rows3 : ∀ a, a < 13 → rowA (a + 39) = true := by decide +kernel
theorem rows4 : ∀ a, a < 13 → rowA (a + 52) = true := by decide +kernel
theorem rowsA (a : Nat) (h : a < 65) : rowA a = true := by
  rcases (show a < 13 ∨ (13 ≤ a ∧ a < 26) ∨ (26 ≤ a ∧ a < 39) ∨ (39 ≤ a ∧ a < 52) ∨ 52 ≤ a by omega) with h | ⟨h1, h2⟩ | ⟨h1, h2⟩ | ⟨h1, h2⟩ | h1
  · exact rows0 a h
  · have := rows1 (a - 13) (by omega)
    rwa [show a - 13 + 13 = a by omega] at this
  · have := rows2 (a - 26) (by omega)
    rwa [show a - 26 + 26 = a by omega] at this
  · have := rows3 (a - 39) (by omega)
    rwa [show a - 39 + 39 = a by omega] at this
  · have := rows4 (a - 52) (by omega)
    rwa [show a - 52 + 52 = a by omega] at this
/-- The logarithm, each value once. -/
def serW (u : Nat) : Nat → Nat → Nat → (Nat → Bool) → Bool
  | 0, _, q, K => K q
  | f + 1, j, q, K => forceP (fop .quo .f64 one (floatOfInt .f64 ((25 - 2 * j : Nat) : Int))) fun a => forceP (fop .mul .f64 u q) fun b => forceP (fop .add .f64 a b) fun c => serW u f (j + 1) c K
theorem serW_is (u : Nat) (K : Nat → Bool) : ∀ f j, serW u f j (serC u j) K = K (serC u (j + f))
  | 0, _ => rfl
  | f + 1, j => by
    unfold serW
    rw [forceP_is, forceP_is, forceP_is]
    have := serW_is u K f (j + 1)
    rw [show j + 1 + f = j + (f + 1) by omega] at this
    exact this
def logW (x : Nat) (e : Int) (K : Nat → Bool) : Bool :=
  forceP (fop .sub .f64 x one) fun a => forceP (fop .add .f64 x one) fun b => forceP (fop .quo .f64 a b) fun s => forceP (fop .mul .f64 s s) fun u => serW u 13 0 0 fun q =>
    forceP (fop .mul .f64 s q) fun c => forceP (fop .mul .f64 two c) fun d => forceP (fop .mul .f64 (floatOfInt .f64 e) 4604418534313441775) fun g => forceP (fop .add .f64 d g) K
theorem logW_is (x : Nat) (e : Int) (K : Nat → Bool) : logW x e K = K (logC x e) := by
  unfold logW
  simp only [forceP_is]
  exact serW_is _ _ 13 0
def logChk (a : Nat) : Bool := forceP (tabE.getD (a + 32) 0) fun x => (x % 2147483648 != 0) && ((decide (x < 2139095040)) && ((FloatKind.f32.format.order x 0 == some Ordering.gt) && (forceP (widen x) fun y => forceP (redX y) fun z => logW z (redE y) fun d => real8 d && (narOk d && (narW d == tabL.getD a 0)))))
theorem logs : ∀ a, a < 65 → logChk a = true := by decide +kernel
def logGap (a : Nat) : Bool := real4 (tabL.getD a 0) && (forceP (widen (tabL.getD a 0)) fun u => forceP (widen (tabK.getD (a + 32) 0)) fun v => forceP (gapV u v) fun g => real8 g && less8 g 4562254508917369340)
theorem logGaps : ∀ a, a < 65 → logGap a = true := by decide +kernel
end Go.Proofs.Ytncbohecppdfnaa
