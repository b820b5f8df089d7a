/- Lemmas: The digest of a node of the law's four pairs, reckoned round by round. The trie of the law's four pairs. Right pairs are sorted in one way alone. A slice of cells that may be written, with room behind it: what append makes of it. No condition but that it is of at most a million cells. The reference's left and at, at this translation. The reference's turns and constant, at this translation: they are the program's tables. The reference's constant, at this translation: that of the program's table. The first part of the reference's round: the columns. -/
import Derived.Test.YtfdjiofogohcmaaGreatDoorM16
import Derived.Test.YtfdjiofogohcmaaGreatDoorM20
import Derived.Test.YtfdjiofogohcmaaGreatDoorM21
import Derived.Test.YtfdjiofogohcmaaGreatDoorM1
import Derived.Laws.IdiomCopy
import Derived.Laws.IdiomStrings
namespace Go.Proofs.YtfdjiofogohcmaaGreatDoor
open Go.RowKit Go.Sort
namespace D4
/-- The node's bytes, and their digest. -/
def t : ByteArray := ⟨#[226, 22, 160, 189, 62, 229, 7, 230, 198, 124, 254, 252, 169, 143, 132, 190, 71, 193, 187, 192, 9, 49, 95, 171, 196, 64, 93, 180, 186, 50, 25, 3, 116, 87, 42]⟩
def d : ByteArray := ⟨#[89, 145, 187, 140, 101, 20, 20, 138, 41, 219, 103, 106, 20, 172, 80, 108, 210, 205, 87, 117, 172, 230, 60, 48, 164, 254, 69, 119, 21, 233, 172, 132]⟩
def e0 : List Int := [16575469011192518370, 13728255524388895942, 12348642621231186247, 223265434002866372, 19552116, 0, 0, 0, 0, 0, 0, 0, 0, 0, 0, 0, 9223372036854775808, 0, 0, 0, 0, 0, 0, 0, 0]
def e1 : List Int := [11360007531124661305, 8743412275547986057, 13397034371372217507, 2321136966609134588, 16028859479986548736, 6299173582646109883, 11455457430429528439, 17103162679859441634, 14043495442799511432, 5693126467463941869, 1044652404803599670, 3009167771353633283, 8827898388869958210, 1641799344434643101, 6687640382002296492, 6657914144369980678, 11243418472999812390, 7826589721069442534, 7295526697814658267, 3359994513916669782, 7843149122082426690, 17770323973043909543, 14705533591639307233, 9891473488816843249, 5900724573411631363]
def e2 : List Int := [7452947672319385727, 16010551736447856582, 1000189979959678538, 11212645817358802836, 616256953748614757, 10138065712492773770, 13355751417901127385, 16830384972690661117, 12244138050459266693, 6487358142963355378, 11982396590926302912, 66446885298251476, 12055748315104483125, 16034564722289669247, 2986278432676650824, 17959515579940584234, 7962826935038654426, 7356267672247953538, 8678621145420663931, 15754333071769898771, 5653766200920900246, 15178609777958959598, 7966418549417212430, 14328157526712814032, 8006119344871356752]
def e3 : List Int := [10120758773881491100, 7233138706381712101, 151529757468284426, 14400161622507643483, 5973761937696207517, 4176601689725055883, 8295369261414289040, 11115149672536810585, 2229211860686988984, 2608013668764723583, 7948593646972505663, 16345272002825889604, 13301991952007778332, 728677706560685914, 3695130254924742104, 8326584092164033255, 1062191829342581246, 4248267398981686752, 4228633592352835114, 16943653596438586695, 6375095371574831340, 1962994159705256476, 4368891494878099993, 6233785696592432285, 18292953615533261822]
def e4 : List Int := [11049970646810427964, 17432762220789121587, 6222731573567663509, 4517815931922373517, 13860136066934503594, 18354768817684057435, 8974989769123804834, 18123500425711349207, 16635791617130218227, 17587671311932351898, 1411348457305230185, 5660798565566883137, 779958054433427318, 5392627642225020661, 11773413454598605214, 3743568587064398219, 17329618797662013818, 4101363330354249855, 347802201287791337, 16851028473788053360, 5514708397774100793, 9537451219384455600, 9215271404751075530, 16976184402445955900, 11022881942839780298]
def e5 : List Int := [1639966214715625628, 7048660567933151188, 3350321564052996376, 16596538953308395685, 10248419227074171815, 1730493593742363813, 17972431577309301599, 5943420130489713092, 9032241648317329533, 4761046380935350511, 8492852488033288970, 17757536132030155501, 2625696502553411631, 3436673684248499594, 16511450760276412465, 6053193026028078086, 17106064568807103154, 10607378224492706582, 4551446812731506284, 1561399751455453660, 15459025235077671464, 17285208098660082138, 10219642706480877785, 10204123485170501072, 1451406551536143599]
def e6 : List Int := [17790791495772390879, 17128237551007012584, 8647830491027750292, 10624925115550553087, 1150625138640463937, 8413149605853168118, 7147705055690044287, 574317842649715429, 6319380521827848960, 9115847312256653832, 1929215657858466625, 9505780072526728652, 13949244452789343660, 9729054231349102752, 8340378407171317287, 18156760502685462046, 15906640366485862216, 637695578840735817, 732533287803303345, 8979619136872297106, 10578611319825984854, 17047782722379818704, 2924641731142010632, 11289510079145017811, 392156390931273983]
def e7 : List Int := [7450331439541252307, 17061362370566405621, 15354660889216698779, 4485770170180270209, 17380585139881394498, 132439089022692927, 169770504512638886, 14825930910895175328, 14492211970830741887, 1579463859566235670, 27606122574369777, 4599018568000273772, 14297230836856444359, 8120523903138757640, 15925996940414306744, 13033360601752050772, 8628236593711776353, 17610232049972172073, 4760855577464164290, 636346483794660787, 689482574827757339, 945189075976940909, 13796053613216457073, 8054616349620210215, 13837648695235577668]
def e8 : List Int := [691737884062787747, 1354419215017505106, 4682826413490739717, 7253329656980879063, 761231954455355971, 7261781862607628314, 15877506238593379562, 1570561758236986445, 14659103330915364446, 13413144742003696332, 5825772743308779341, 444198057415585032, 7076152671447588795, 17369926982621529545, 1936874193682668835, 17258169988324312823, 15175129773509228099, 13906019303510613820, 4398372049370713975, 12971182246741079408, 14637280250998385467, 8093828657413321252, 3580967507289401750, 13771515363014364465, 14060712580841762271]
def e9 : List Int := [1198993966867400374, 14849129651986190404, 1678448308289034263, 14706224925232443870, 1004609951578094317, 13468586951151601899, 1221672972669225873, 5356234886442105699, 9221411423992383770, 11050535554305830761, 8553928502195465151, 9743539531484080115, 10987111503320735193, 11214190671184164713, 8228888792251731588, 4964574591807924165, 11913511003464353291, 420644046668496430, 10816279149290917530, 6691209644631177442, 16379003073623714455, 10961603916483264855, 151832421608477701, 8795837712288964698, 10924120662058236855]
def e10 : List Int := [16524288225823088795, 17185400738459129035, 4396429239985684955, 18360420321801134091, 10142190833834311061, 15679331705903171088, 9059616881371162739, 2245251430433033412, 5975972627408935364, 13376987512119758039, 2686812510334772404, 11567337120781056137, 10172279358812940254, 1704267628279352940, 14765276543351033596, 17128334039353713561, 9746465262381412455, 12305405479481850340, 2675562802790211324, 8404120287174660258, 15769792865086679781, 9940561962922720310, 17012988135947521807, 12971142963977684524, 11044993709033330619]
def e11 : List Int := [11444875871382206177, 16858768207599960387, 8915798661890213080, 16756880886099133714, 8003959505099602830, 9100586991404088845, 3196654708236612789, 6245682709382227643, 4324721544193595216, 3494986689283429057, 2620059448111925144, 4464588428439623580, 2570406956354230514, 17916817477216263585, 15321235779182282072, 17768088264375129629, 13594511241539188176, 6197017340377625461, 4811899024040096045, 4620421676404436971, 6007039808058196438, 15694353371462021714, 320747810911913619, 9868790878198767149, 15171746073063724713]
def e12 : List Int := [2161158295525241967, 6570570910400217919, 8066206251606345505, 7631541655122159294, 18263263843952705057, 5650366366272540632, 821443723932041149, 3829229912225646818, 10822198866301369565, 845258969131412599, 7188989822932124862, 18364297895644033381, 14634123155202845451, 6190866148198480448, 13707421107064792016, 1067816489720741052, 1313479201252445254, 887363146188571629, 8568313632443403143, 10440765500116760507, 15180901524696586813, 16697354497253292503, 6792737452804246401, 9192185123444001598, 103441063490875852]
def e13 : List Int := [2495836426864141161, 10066212911323883818, 5958867839958603320, 12022103369232734516, 11796177643644739218, 13058290866938722725, 12688822354378958993, 7832679871345247504, 4616468042233292759, 5224013738557045770, 8366698357131937737, 16731183420320274626, 3563888193995229047, 10502500987528556767, 10119839809222385611, 7282850305853071197, 5632116658631042977, 4107916106110218837, 2594832262288967658, 8297520873764405258, 10130188995894656664, 14939793623829141736, 17136355816809383304, 9684782407143690303, 8182470376263525405]
def e14 : List Int := [8277865866760222274, 17020590036678053730, 10716288129495648948, 6036137021108658920, 11832860568802567448, 7084244006203361970, 4876607974659971329, 9711212137592304996, 6308662299187762484, 8221898382896718604, 3885410815917500108, 2760467858627779685, 8218479997473627963, 7226507935514945328, 5358270531432163709, 1159053169487417699, 13540820734095210457, 16971132713407651157, 12104824529290623473, 11103027403830625945, 18082204906561823858, 17269309897523229051, 9094968400913280413, 9770513494455661735, 14728137083717193148]
def e15 : List Int := [4740607654635397062, 4142943306190039265, 17566141266832815104, 17228905942864645461, 11217848660136518764, 15046389628034654281, 5283629662126919923, 2768580238201451850, 11932132154836811903, 12425109137478745039, 10566202415377351377, 16176063892656807219, 770401269521123544, 10639499641233963093, 5320156620458459723, 18274232620295988539, 16260100636517638045, 13447489285302271109, 5310593293531471473, 2153349374111535208, 2484164933820242777, 708087448693129391, 3545579201643994212, 14957796363400262037, 16948108313819338849]
def e16 : List Int := [13504610530506719056, 18217784332782075052, 2319892982916191059, 15393799869088640314, 11141438469191336873, 14445877284636801239, 17192506780443516087, 8601836943388416223, 6400936871987712529, 1792899143109579848, 3511038996644221552, 6010777628245367696, 2917893265185069719, 8006861347743079134, 13214852936214209115, 4378754295431980831, 8504514257573806915, 6258970680658519669, 13375223747304243035, 16612272960179363379, 14803556035387494355, 8498573802450288193, 9622317289617057759, 11500496382316500787, 15091560506010576373]
def e17 : List Int := [17728679710056462384, 11621662725081311410, 12265881323577760796, 968241936881296606, 13854646271506111502, 13317674707831590620, 8156820752784145527, 3981808272556392700, 3882790636215252950, 16785720954475318892, 10348175589071832552, 603977105868442223, 9489860571816357614, 15876140330092533798, 18209425366780752523, 10533059435949352387, 11335317857551503228, 11401816982099796725, 1516949045605682985, 8535775719272531503, 4219289217956397224, 1709280703602683980, 306178851639491348, 4164390696844407727, 8785868992407091233]
def e18 : List Int := [597651982564583414, 5441176371295546728, 4756222092857593585, 4041278110468209571, 5374453327299199111, 15941966347998169765, 3590983249699278873, 2229720204082990557, 7699068080524288957, 17878364153847398051, 1895239181585089031, 7446616158962418936, 13237695253407814266, 2760303951278315885, 7913573579077099205, 2704629532183724657, 230863272870730559, 8555871635288075301, 15398170348458289762, 954483242464879337, 15730267787292299952, 4252257432062671354, 3421953781809222052, 16811991872644682218, 18310487287442566897]
def e19 : List Int := [9142264123213279005, 14806697459710798191, 9648435596741482275, 14685985925482262884, 10550534515566622153, 13902875795811350244, 3644099189076277309, 17490893872650821585, 14352029387988763401, 16452758369910249458, 1218921940369422001, 4632730938029099466, 2738657346331388367, 10720083055392276132, 760512543995082812, 1979790234985519710, 7882975466177308290, 406171507051138762, 5295521370570486197, 16934421560924692997, 14866763388317819666, 887334060540736763, 11271623705594673697, 1449209684816779906, 13533688014291856232]
def e20 : List Int := [16047349742909550010, 740888238307523507, 17433015883086513974, 537696275116797277, 5670125561587183641, 1238015073239948027, 13673908793908747259, 12469922114385117409, 1965013054254936026, 1697444969454707687, 1854694668729558282, 2899767826978337592, 2218672693753754504, 11472293374261424729, 8000351299674402319, 13480775563804557130, 17149490250474212042, 4488611649997327754, 14756941048478052575, 9578670496690381692, 14298926684496413069, 14162608109558984792, 4494018438232286235, 13191831754586039894, 11228769069655496539]
def e21 : List Int := [1441981707491975073, 17331602941748221014, 9166341251888524679, 7673063802027617509, 11747432106752560505, 10397371402258777270, 18165545993724598629, 2731165443843537096, 1383443371953994536, 11611508607520195179, 745100726517746114, 2094666117109336848, 7393833977569350164, 14813434921927434862, 2564899129297348994, 10842308465092091423, 1030234284693332095, 5390668725447598140, 639716246226562701, 4372760271091731528, 14766307008234261659, 14701910331344683296, 8063872020603039015, 3841261947300304233, 13738700443354958915]
def e22 : List Int := [17812558555991226023, 10987379722572315666, 18180953696695279682, 8114697685170703881, 6001246884514588588, 5641756584918377917, 9814841620251830097, 16307572875128409410, 5663124366727904157, 1542854650406789786, 2564884824675189004, 17403266939480990461, 4408166324640022906, 18009697406786645010, 6031771434785172880, 4060906133140334840, 11255149945837892407, 633390717346985453, 16804266011891912150, 6588657744310494551, 13822953841609728444, 7974423781040155458, 4499575143454471907, 5327176909798643270, 12206102736695680390]
def e23 : List Int := [13765574088070147332, 449422684393042864, 16115330274743600450, 12049969433818722340, 6018287725764738993, 3699414132802109157, 6082520733643614365, 11327803722586134383, 3805859790605393648, 15619435144385036904, 6629780869939586001, 5960505734325824845, 1400549399156927348, 9375126773053384006, 6038929513191568307, 305011740836912261, 4766895040976939601, 7870571818877521430, 6812233876908303090, 10166659580062888873, 6115255487359992168, 9455363078083639594, 9118827233623348074, 9439390358823591352, 6941761170952523635]
def e24 : List Int := [9949599903153623385, 7804927357917584169, 3475906640800632274, 9560272387405381284, 15809356410648576804, 6505150002332480696, 9943322491761542745, 6165910962948983503, 268114540779072391, 9592279621816408249, 157246535278439114, 3514759586479257969, 4336618839320331871, 16555864055661522437, 8837784490893892235, 13599935749110207872, 18304989172932633492, 6416172790363442498, 14188200857240933350, 13829258739135075820, 366264137170578506, 4759884637875425742, 7086766191828840250, 15837002839143260859, 14327547693467460595]
theorem s0 : ∀ j : Fin 25, roundOf 0 (lit e0) j.val = lit e1 j.val := by decide +kernel
theorem s1 : ∀ j : Fin 25, roundOf 1 (lit e1) j.val = lit e2 j.val := by decide +kernel
theorem s2 : ∀ j : Fin 25, roundOf 2 (lit e2) j.val = lit e3 j.val := by decide +kernel
theorem s3 : ∀ j : Fin 25, roundOf 3 (lit e3) j.val = lit e4 j.val := by decide +kernel
theorem s4 : ∀ j : Fin 25, roundOf 4 (lit e4) j.val = lit e5 j.val := by decide +kernel
theorem s5 : ∀ j : Fin 25, roundOf 5 (lit e5) j.val = lit e6 j.val := by decide +kernel
theorem s6 : ∀ j : Fin 25, roundOf 6 (lit e6) j.val = lit e7 j.val := by decide +kernel
theorem s7 : ∀ j : Fin 25, roundOf 7 (lit e7) j.val = lit e8 j.val := by decide +kernel
theorem s8 : ∀ j : Fin 25, roundOf 8 (lit e8) j.val = lit e9 j.val := by decide +kernel
theorem s9 : ∀ j : Fin 25, roundOf 9 (lit e9) j.val = lit e10 j.val := by decide +kernel
theorem s10 : ∀ j : Fin 25, roundOf 10 (lit e10) j.val = lit e11 j.val := by decide +kernel
theorem s11 : ∀ j : Fin 25, roundOf 11 (lit e11) j.val = lit e12 j.val := by decide +kernel
theorem s12 : ∀ j : Fin 25, roundOf 12 (lit e12) j.val = lit e13 j.val := by decide +kernel
theorem s13 : ∀ j : Fin 25, roundOf 13 (lit e13) j.val = lit e14 j.val := by decide +kernel
theorem s14 : ∀ j : Fin 25, roundOf 14 (lit e14) j.val = lit e15 j.val := by decide +kernel
theorem s15 : ∀ j : Fin 25, roundOf 15 (lit e15) j.val = lit e16 j.val := by decide +kernel
theorem s16 : ∀ j : Fin 25, roundOf 16 (lit e16) j.val = lit e17 j.val := by decide +kernel
theorem s17 : ∀ j : Fin 25, roundOf 17 (lit e17) j.val = lit e18 j.val := by decide +kernel
theorem s18 : ∀ j : Fin 25, roundOf 18 (lit e18) j.val = lit e19 j.val := by decide +kernel
theorem s19 : ∀ j : Fin 25, roundOf 19 (lit e19) j.val = lit e20 j.val := by decide +kernel
theorem s20 : ∀ j : Fin 25, roundOf 20 (lit e20) j.val = lit e21 j.val := by decide +kernel
theorem s21 : ∀ j : Fin 25, roundOf 21 (lit e21) j.val = lit e22 j.val := by decide +kernel
theorem s22 : ∀ j : Fin 25, roundOf 22 (lit e22) j.val = lit e23 j.val := by decide +kernel
theorem s23 : ∀ j : Fin 25, roundOf 23 (lit e23) j.val = lit e24 j.val := by decide +kernel
theorem all24 (f : Nat → Int) (h : ∀ j, j < 25 → f j = lit e0 j) : ∀ j, j < 25 → roundsOf f 24 j = lit e24 j :=
  (next (next (next (next (next (next (next (next (next (next (next (next (next (next (next (next (next (next (next (next (next (next (next (next (show ∀ j, j < 25 → roundsOf f 0 j = lit e0 j from h) s0) s1) s2) s3) s4) s5) s6) s7) s8) s9) s10) s11) s12) s13) s14) s15) s16) s17) s18) s19) s20) s21) s22) s23)
def g0 : Nat → Int := lastOf (blkOf (inOf (fun _ => 0) t (t.size / 136)) t (t.size / 136) (t.size % 136 / 8)) (remAt t (t.size / 8)) (t.size % 136 / 8)
theorem start : ∀ j : Fin 25, putAt g0 16 (xr (g0 16) 9223372036854775808) j.val = lit e0 j.val := by decide +kernel
theorem dg_lit : dg (lit e24) = [89, 145, 187, 140, 101, 20, 20, 138, 41, 219, 103, 106, 20, 172, 80, 108, 210, 205, 87, 117, 172, 230, 60, 48, 164, 254, 69, 119, 21, 233, 172, 132] := by decide +kernel
theorem sum : sumOf t = d := by
  have h : ∀ j, j < 25 → takeOf (fun _ => 0) t j = lit e24 j := fun j hj => all24 _ (fun j hj => start ⟨j, hj⟩) j hj
  unfold sumOf
  rw [dg_ext _ _ h, dg_lit]
  rfl
end D4
end Go.Proofs.YtfdjiofogohcmaaGreatDoor
namespace Go.Proofs.YtfdjiofogohcmaaGreatDoor
open Go.RowKit Go.Shelf Go.Sort

def four4 : List Pr := [(⟨#[100, 111]⟩, ⟨#[118, 101, 114, 98]⟩), (⟨#[100, 111, 103]⟩, ⟨#[112, 117, 112, 112, 121]⟩), (⟨#[100, 111, 103, 101]⟩, ⟨#[99, 111, 105, 110]⟩), (⟨#[104, 111, 114, 115, 101]⟩, ⟨#[115, 116, 97, 108, 108, 105, 111, 110]⟩)]
def eDo : Pr := (⟨#[6, 4, 6, 15]⟩, ⟨#[118, 101, 114, 98]⟩)
def eDog : Pr := (⟨#[6, 4, 6, 15, 6, 7]⟩, ⟨#[112, 117, 112, 112, 121]⟩)
def eDoge : Pr := (⟨#[6, 4, 6, 15, 6, 7, 6, 5]⟩, ⟨#[99, 111, 105, 110]⟩)
def eHorse : Pr := (⟨#[6, 8, 6, 15, 7, 2, 7, 3, 6, 5]⟩, ⟨#[115, 116, 97, 108, 108, 105, 111, 110]⟩)
theorem ents4 : ents four4 = [eDo, eDog, eDoge, eHorse] := by decide +kernel

theorem refI_dig {x : It} {t d : ByteArray} (h : eS x = t) (hs : 32 ≤ t.size) (hd : sumOf t = d) : refI x = .mk false d [] := by
  unfold refI
  rw [h, if_neg (by omega), hd]
def tx (s : ByteArray) : It := .mk false s []
def X7 : It := .mk true ⟨#[]⟩ [tx ⟨#[53]⟩, tx ⟨#[99, 111, 105, 110]⟩]
def nod7 : Nd := .mk X7 .nil
def X6 : It := .mk true ⟨#[]⟩ [zIt, zIt, zIt, zIt, zIt, zIt, X7, zIt, zIt, zIt, zIt, zIt, zIt, zIt, zIt, zIt, tx ⟨#[112, 117, 112, 112, 121]⟩]
def nod6 : Nd := .mk X6 (.cons ⟨#[6]⟩ nod7 .nil)
def X5 : It := .mk true ⟨#[]⟩ [tx ⟨#[23]⟩, X6]
def nod5 : Nd := .mk X5 (.cons ⟨#[7]⟩ nod6 .nil)
def X4 : It := .mk true ⟨#[]⟩ [zIt, zIt, zIt, zIt, zIt, zIt, X5, zIt, zIt, zIt, zIt, zIt, zIt, zIt, zIt, zIt, tx ⟨#[118, 101, 114, 98]⟩]
def nod4 : Nd := .mk X4 (.cons ⟨#[6]⟩ nod5 .nil)
def X2 : It := .mk true ⟨#[]⟩ [tx ⟨#[0, 111]⟩, tx D1.d]
def nod2 : Nd := .mk X2 (.cons ⟨#[6, 15]⟩ nod4 .nil)
def XH : It := .mk true ⟨#[]⟩ [tx ⟨#[32, 111, 114, 115, 101]⟩, tx ⟨#[115, 116, 97, 108, 108, 105, 111, 110]⟩]
def nodH : Nd := .mk XH .nil
def X1 : It := .mk true ⟨#[]⟩ [zIt, zIt, zIt, zIt, tx D2.d, zIt, zIt, zIt, XH, zIt, zIt, zIt, zIt, zIt, zIt, zIt, zIt]
def nod1 : Nd := .mk X1 (.cons ⟨#[4]⟩ nod2 (.cons ⟨#[8]⟩ nodH .nil))
def X0 : It := .mk true ⟨#[]⟩ [tx ⟨#[22]⟩, tx D3.d]
def nod0 : Nd := .mk X0 (.cons ⟨#[6]⟩ nod1 .nil)

theorem n7 : ndF 123 7 [eDoge] = nod7 := by kernel_rfl
theorem n6 : ndF 124 6 [eDog, eDoge] = nod6 := by kernel_rfl
theorem n5 : ndF 125 5 [eDog, eDoge] = nod5 := by kernel_rfl
theorem n4 : ndF 126 4 [eDo, eDog, eDoge] = nod4 := by kernel_rfl
theorem t4 : eS X4 = D1.t := by decide +kernel
theorem r4 : refI X4 = tx D1.d := refI_dig t4 (by decide +kernel) D1.sum
theorem n2 : ndF 127 2 [eDo, eDog, eDoge] = nod2 := by
  rw [nd_bridge 126 2 eDo eDog [eDoge] 2 (by decide +kernel) (by decide), show 2 + 2 = 4 from rfl, n4]
  unfold brN
  rw [show nod4.x = X4 from rfl, r4]
  kernel_rfl
theorem t2 : eS X2 = D2.t := by decide +kernel
theorem r2 : refI X2 = tx D2.d := refI_dig t2 (by decide +kernel) D2.sum
theorem nH : ndF 127 2 [eHorse] = nodH := by kernel_rfl
theorem n1 : ndF 128 1 [eDo, eDog, eDoge, eHorse] = nod1 := by
  rw [nd_fork 127 1 eDo eDog [eDoge, eHorse] (by decide +kernel)]
  have hp : (pg 1 (rsE 1 [eDo, eDog, eDoge, eHorse]) 0).map (kdE (ndF 127 2) 1 (rsE 1 [eDo, eDog, eDoge, eHorse])) = [(4, ndF 127 2 [eDo, eDog, eDoge]), (8, ndF 127 2 [eHorse])] := by kernel_rfl
  unfold fkN
  rw [hp, n2, nH]
  have hv : vlE 1 [eDo, eDog, eDoge, eHorse] = ⟨#[]⟩ := by decide +kernel
  rw [hv]
  unfold fkI fkS
  simp only [List.foldl_cons, List.foldl_nil]
  rw [show nod2.x = X2 from rfl, r2]
  show Nd.mk (It.mk true ⟨#[]⟩ (((List.replicate 16 zIt ++ [zIt]).set 4 (tx D2.d)).set 8 (refI XH))) (((Sts.nil).snoc ⟨#[4]⟩ nod2).snoc ⟨#[8]⟩ nodH) = nod1
  kernel_rfl
theorem t1 : eS X1 = D3.t := by decide +kernel
theorem r1 : refI X1 = tx D3.d := refI_dig t1 (by decide +kernel) D3.sum
theorem n0 : ndF 129 0 [eDo, eDog, eDoge, eHorse] = nod0 := by
  rw [nd_bridge 128 0 eDo eDog [eDoge, eHorse] 1 (by decide +kernel) (by decide), show 0 + 1 = 1 from rfl, n1]
  unfold brN
  rw [show nod1.x = X1 from rfl, r1]
  kernel_rfl
theorem t0 : eS X0 = D4.t := by decide +kernel
theorem top4 : topN four4 = nod0 := by
  unfold topN
  rw [ents4, n0]
theorem topB4 : topB four4 = D4.t := by
  unfold topB
  rw [if_neg (by decide), top4]
  exact t0
theorem way4 : wyL (wayL (kyP ⟨#[100, 111, 103]⟩)) four4 = [D4.t, D3.t, D2.t, D1.t] := by
  unfold wyL
  rw [if_neg (by decide), top4]
  have hk : kyP ⟨#[100, 111, 103]⟩ = ⟨#[6, 4, 6, 15, 6, 7]⟩ := by decide +kernel
  rw [hk]
  unfold wayL
  have o1 : ownT X1 = [D3.t] := by
    unfold ownT
    rw [t1, if_neg (by decide +kernel)]
  have o2 : ownT X2 = [D2.t] := by
    unfold ownT
    rw [t2, if_neg (by decide +kernel)]
  have o4 : ownT X4 = [D1.t] := by
    unfold ownT
    rw [t4, if_neg (by decide +kernel)]
  have o5 : ownT X5 = [] := by decide +kernel
  have o6 : ownT X6 = [] := by decide +kernel
  have w6 : wyN ⟨#[]⟩ nod6 = [] := by
    show ownT X6 ++ (if pfx ⟨#[6]⟩ ⟨#[]⟩ = true then _ else []) = []
    rw [o6, if_neg (by decide +kernel)]
    rfl
  have w5 : wyN ⟨#[7]⟩ nod5 = [] := by
    show ownT X5 ++ (if pfx ⟨#[7]⟩ ⟨#[7]⟩ = true then wyN (rst ⟨#[7]⟩ ⟨#[7]⟩) nod6 else []) = []
    rw [o5, if_pos (by decide +kernel), show rst ⟨#[7]⟩ ⟨#[7]⟩ = ⟨#[]⟩ by decide +kernel, w6]
    rfl
  have w4 : wyN ⟨#[6, 7]⟩ nod4 = [D1.t] := by
    show ownT X4 ++ (if pfx ⟨#[6]⟩ ⟨#[6, 7]⟩ = true then wyN (rst ⟨#[6, 7]⟩ ⟨#[6]⟩) nod5 else []) = _
    rw [o4, if_pos (by decide +kernel), show rst ⟨#[6, 7]⟩ ⟨#[6]⟩ = ⟨#[7]⟩ by decide +kernel, w5]
    rfl
  have w2 : wyN ⟨#[6, 15, 6, 7]⟩ nod2 = [D2.t, D1.t] := by
    show ownT X2 ++ (if pfx ⟨#[6, 15]⟩ ⟨#[6, 15, 6, 7]⟩ = true then wyN (rst ⟨#[6, 15, 6, 7]⟩ ⟨#[6, 15]⟩) nod4 else []) = _
    rw [o2, if_pos (by decide +kernel), show rst ⟨#[6, 15, 6, 7]⟩ ⟨#[6, 15]⟩ = ⟨#[6, 7]⟩ by decide +kernel, w4]
    rfl
  have w1 : wyN ⟨#[4, 6, 15, 6, 7]⟩ nod1 = [D3.t, D2.t, D1.t] := by
    show ownT X1 ++ (if pfx ⟨#[4]⟩ ⟨#[4, 6, 15, 6, 7]⟩ = true then wyN (rst ⟨#[4, 6, 15, 6, 7]⟩ ⟨#[4]⟩) nod2 else _) = _
    rw [o1, if_pos (by decide +kernel), show rst ⟨#[4, 6, 15, 6, 7]⟩ ⟨#[4]⟩ = ⟨#[6, 15, 6, 7]⟩ by decide +kernel, w2]
    rfl
  show eS X0 :: (if pfx ⟨#[6]⟩ ⟨#[6, 4, 6, 15, 6, 7]⟩ = true then wyN (rst ⟨#[6, 4, 6, 15, 6, 7]⟩ ⟨#[6]⟩) nod1 else []) = _
  rw [t0, if_pos (by decide +kernel), show rst ⟨#[6, 4, 6, 15, 6, 7]⟩ ⟨#[6]⟩ = ⟨#[4, 6, 15, 6, 7]⟩ by decide +kernel, w1]
end Go.Proofs.YtfdjiofogohcmaaGreatDoor
namespace Go.Proofs.YtfdjiofogohcmaaGreatDoor
open Go.RowKit Go.Shelf Go.Sort

/-- A key ahead of another one. -/
def klt (x y : Pr) : Prop := ltStr x.1.data.toList y.1.data.toList = true
theorem klt_asymm {x y : Pr} (h : klt x y) (h' : klt y x) : False := by
  have a := of_decide_eq_true h
  have b := of_decide_eq_true h'
  exact absurd b (List.lt_asymm a)
theorem sorted_eq : ∀ (a b : List Pr), a.Perm b → a.Pairwise klt → b.Pairwise klt → a = b
  | [], b, h, _, _ => (List.nil_perm.1 h).symm
  | x :: r, [], h, _, _ => absurd h.length_eq (by simp)
  | x :: r, y :: s, h, ha, hb => by
    have hxy : x = y := by
      have hx : x ∈ y :: s := h.mem_iff.1 (by simp)
      have hy : y ∈ x :: r := h.mem_iff.2 (by simp)
      rcases List.mem_cons.1 hx with e | hx
      · exact e
      · rcases List.mem_cons.1 hy with e | hy
        · exact e.symm
        · exact (klt_asymm (List.rel_of_pairwise_cons ha hy) (List.rel_of_pairwise_cons hb hx)).elim
    subst hxy
    rw [sorted_eq r s (List.Perm.cons_inv h) (List.Pairwise.of_cons ha) (List.Pairwise.of_cons hb)]
theorem sorted_pw (es : List Pr) (hr : RightP es) (hs : SortedP es) : es.Pairwise klt := by
  rw [List.pairwise_iff_getElem]
  intro i j hi hj hij
  have e1 : es[i]? = some es[i] := List.getElem?_eq_getElem hi
  have e2 : es[j]? = some es[j] := List.getElem?_eq_getElem hj
  unfold klt
  cases hxy : ltStr es[i].1.data.toList es[j].1.data.toList with
  | true => rfl
  | false => exact absurd (bytes_inj2 (tri_ltStr _ _ hxy (hs i j _ _ hij e1 e2))) (hr.2.2 i j _ _ hij e1 e2)
/-- Two sorted orders of right pairs are one. -/
theorem sorted_one {es a b : List Pr} (hr : RightP es) (h1 : a.Perm es) (h2 : b.Perm es) (s1 : SortedP a) (s2 : SortedP b) : a = b :=
  sorted_eq a b (h1.trans h2.symm) (sorted_pw a ((right_perm h1).2 hr) s1) (sorted_pw b ((right_perm h2).2 hr) s2)
end Go.Proofs.YtfdjiofogohcmaaGreatDoor
namespace Go.Proofs.YtfdjiofogohcmaaGreatDoor
open Go.RowKit Go.Sort

/-- n cells in block g, of cap that there are; none may not be written. -/
structure Bs (g n cap : Nat) (f : Nat → Value) (W : World) : Prop where
  z : g < W.heap.size
  nc : n ≤ cap
  c : ∀ j, j < n → W.cell? ⟨g, j, none⟩ = some (f j)
  s : ∀ j, j < cap → (W.cell? ⟨g, j, none⟩).isSome = true
  fr : ∀ j, j < cap → W.frozen? ⟨g, j, none⟩ = false

theorem Bs.below {g n cap : Nat} {f : Nat → Value} {W W' : World} (k : Bs g n cap f W) (hb : Below W.heap.size W W') : Bs g n cap f W' :=
  ⟨Nat.lt_of_lt_of_le k.z hb.size, k.nc, fun j hj => (hb.cell (p := ⟨g, j, none⟩) k.z).trans (k.c j hj), fun j hj => by rw [hb.cell (p := ⟨g, j, none⟩) k.z]; exact k.s j hj, fun j hj => (hb.frozen (p := ⟨g, j, none⟩) k.z).trans (k.fr j hj)⟩
theorem Bs.ext {g n cap : Nat} {f h : Nat → Value} {W : World} (k : Bs g n cap f W) (e : ∀ j, j < n → f j = h j) : Bs g n cap h W := ⟨k.z, k.nc, fun j hj => by rw [← e j hj]; exact k.c j hj, k.s, k.fr⟩

theorem grown_setCells {g : Nat} : ∀ (vs : List Value) (o : Nat) (W : World), W.grownBy (W.setCells g o vs) (some g)
  | [], _, W => ⟨rfl, rfl, rfl, Nat.le_refl _, fun _ _ _ => rfl⟩
  | v :: r, o, W => by
    have h := grown_setCells (g := g) r (o + 1) (W.setCell ⟨g, o, none⟩ v)
    rw [World.setCells]
    refine ⟨h.os.trans rfl, h.tape.trans rfl, h.output.trans rfl, Nat.le_trans (by simp [go_sem]) h.size, fun k hk hne => (h.block k (by simpa [go_sem] using hk) hne).trans ?_⟩
    have hne' : g ≠ k := fun e => hne (by rw [e])
    simp [World.setCell, Array.getElem?_modify, hne']

theorem run_append_bs {P : Program} {W : World} (t ty e : TypeId) (i : TypeInfo) (z : Value) (ht : P.underlying t = some (.slice e)) (hi : P.info? e = some i) (hz : i.zero = some z) (h1 : i.size = 1) (hby : i.bytes ≤ 64) (hzc : z.cells.size = 1)
    (g n cap : Nat) (f : Nat → Value) (BB : Bs g n cap f W) (ad : Addr) (m c : Nat) (news : List Value) (hl : news.length = m) (hnews : ∀ j v, news[j]? = some v → W.cell? (ad.add j) = some v) (hone : ∀ u ∈ news, u.oneCell' = true)
    (hf : ∀ j u, news[j]? = some u → u = f (n + j)) (hsm : n + m ≤ 1000000) :
    ∃ g' cap' W', (Builtin.append_ #[t, t] ty #[.slice (some ⟨g, 0, none⟩) n cap, .slice (some ad) m c]).run P W = .ok (.slice (some ⟨g', 0, none⟩) (n + m) cap') W' ∧ Bs g' (n + m) cap' f W' ∧ (g' = g ∨ W.heap.size ≤ g') ∧ W.grownBy W' (some g) := by
  by_cases hroom : n + m ≤ cap
  · refine ⟨g, cap, W.setCells g n news, ?_, ?_, .inl rfl, grown_setCells _ _ _⟩
    · have hfc := run_firstCells_some (P := P) W i.size m ad m c news (by rw [h1, Nat.mul_one]; exact hl) hnews
      rw [h1] at hfc
      have hst := run_storeCells_cells (P := P) g n news 0 W (fun j hj => BB.s _ (by omega)) (fun j hj => BB.fr _ (by omega)) hone
      simp only [Nat.add_zero] at hst
      simp [Builtin.append_, run_underlying ht, sizeOf, typeInfo, hi, Builtin.lenOf, hroom, hfc, Addr.add_lit, h1, hst]
    · refine ⟨by rw [setCells_size]; exact BB.z, hroom, fun j hj => ?_, fun j hj => ?_, fun j hj => by rw [World.frozen?_setCells]; exact BB.fr j hj⟩
      · by_cases hjn : j < n
        · rw [World.cell?_setCells_out g news n W ⟨g, j, none⟩ (fun _ _ => .inl hjn)]
          exact BB.c j hjn
        · have hin := World.cell?_setCells_in g news n W (fun k hk => BB.s _ (by omega)) (j - n) (by omega)
          rw [show n + (j - n) = j by omega] at hin
          rw [hin]
          have := hf (j - n) (news[j - n]'(by omega)) (by simp)
          rw [show n + (j - n) = j by omega] at this
          rw [← this]
      · by_cases hjn : j < n ∨ n + m ≤ j
        · rw [World.cell?_setCells_out g news n W ⟨g, j, none⟩ (fun _ _ => by dsimp only; omega)]
          exact BB.s j hj
        · have hin := World.cell?_setCells_in g news n W (fun k hk => BB.s _ (by omega)) (j - n) (by omega)
          rw [show n + (j - n) = j by omega] at hin
          rw [hin]
          rfl
  · have holds : ∀ j v, (fl n f)[j]? = some v → W.cell? ((⟨g, 0, none⟩ : Addr).add j) = some v := fun j v hj => by
      obtain ⟨hj2, rfl⟩ := fl_get n f j v hj
      rw [Addr.add_mid, Nat.zero_add]
      exact BB.c j hj2
    have hr := run_append_grow (P := P) W t ty e i z ht hi hz ⟨g, 0, none⟩ n cap (fl n f) (by rw [h1, Nat.mul_one]; exact fl_len _ _) holds ad m c news (by rw [h1, Nat.mul_one]; exact hl) hnews (by omega) (by omega) (growslice_fits (by omega) (by
      have : (n + m) * i.bytes ≤ 1000000 * 64 := Nat.mul_le_mul hsm hby
      omega))
    have hge := grownCap_ge W (n + m) cap e
    refine ⟨_, _, _, hr, ?_, .inr (Nat.le_refl _), ⟨rfl, rfl, rfl, by simp, fun k hk _ => Below.heap_alloc W.drew _ k hk⟩⟩
    have hcell : ∀ j, (W.drew.alloc (.cells ((fl n f).toArray ++ news.toArray ++ Builtin.zeroCells z.cells (grownCap W (n + m) cap e - (n + m))) e)).cell? ⟨W.heap.size, j, none⟩ = ((fl n f).toArray ++ news.toArray ++ Builtin.zeroCells z.cells (grownCap W (n + m) cap e - (n + m)))[j]? := fun j => by
      exact cell_of_row _ W.heap.size j _ e (0, 0) (heap_alloc_last W.drew _)
    have hsz : ((fl n f).toArray ++ news.toArray ++ Builtin.zeroCells z.cells (grownCap W (n + m) cap e - (n + m))).size = grownCap W (n + m) cap e := by
      simp only [Array.size_append, List.size_toArray, size_zeroCells, hzc, fl_len, hl]
      omega
    refine ⟨by simp, hge, fun j hj => ?_, fun j hj => ?_, fun j hj => ?_⟩
    · rw [hcell, Array.getElem?_append_left (by simp [fl_len, hl]; omega)]
      by_cases hjn : j < n
      · rw [Array.getElem?_append_left (by simp [fl_len]; omega)]
        simpa using fl_at n f j hjn
      · rw [Array.getElem?_append_right (by simp [fl_len]; omega)]
        have hlt : j - n < news.length := by omega
        have := hf (j - n) (news[j - n]'hlt) (by simp)
        rw [show n + (j - n) = j by omega] at this
        rw [← this]
        simp [fl_len, hlt]
    · rw [hcell, Array.getElem?_eq_getElem (by rw [hsz]; exact hj)]
      rfl
    · have hh : (W.drew.alloc (.cells ((fl n f).toArray ++ news.toArray ++ Builtin.zeroCells z.cells (grownCap W (n + m) cap e - (n + m))) e)).heap[W.heap.size]? = some (.cells ((fl n f).toArray ++ news.toArray ++ Builtin.zeroCells z.cells (grownCap W (n + m) cap e - (n + m))) e (0, 0)) := heap_alloc_last W.drew _
      simp only [World.frozen?, hh]
      simp

/-- An append of cells that a slice has room for, or has not. -/
theorem wpList_append_bs {P : Program} {W : World} {ops : Array Oper} {rest : List Oper} {o : Oper} {a : Act} {Q : Exit → Act → World → Prop} (hgd : o.guard = none) (s x : Operand) (t : TypeId)
    (hop : o.op = .call { callee := .builtin .append, args := #[s, x], argTypes := #[t, t] })
    (e : TypeId) (i : TypeInfo) (z : Value) (ht : P.underlying t = some (.slice e)) (hi : P.info? e = some i) (hz : i.zero = some z) (h1 : i.size = 1) (hby : i.bytes ≤ 64) (hzc : z.cells.size = 1)
    (g n cap : Nat) (f : Nat → Value) (hs : a.eval s = .slice (some ⟨g, 0, none⟩) n cap) (BB : Bs g n cap f W) (ad : Addr) (m c : Nat) (news : List Value) (hx : a.eval x = .slice (some ad) m c) (hl : news.length = m)
    (hnews : ∀ j v, news[j]? = some v → W.cell? (ad.add j) = some v) (hone : ∀ u ∈ news, u.oneCell' = true) (hf : ∀ j u, news[j]? = some u → u = f (n + j)) (hsm : n + m ≤ 1000000)
    (h : ∀ g' cap' W', Bs g' (n + m) cap' f W' → (g' = g ∨ W.heap.size ≤ g') → W.grownBy W' (some g) → wpList P ops Q rest (a.put o.dst (.slice (some ⟨g', 0, none⟩) (n + m) cap')) W') : wpList P ops Q (o :: rest) a W := by
  refine wpList_plain hgd fun _ hK => ?_
  obtain ⟨g', cap', W', hr, b1, b2, b3⟩ := run_append_bs (P := P) (W := W) t o.type e i z ht hi hz h1 hby hzc g n cap f BB ad m c news hl hnews hone hf hsm
  unfold Oper.wp execOp
  simp only [hop, resolve, invoke, builtin, Sem.run_bind, Sem.run_pure, Result.andThen_ok, List.map_toArray, List.map_cons, List.map_nil, hs, hx, hr]
  exact hK _ _ (h g' cap' W' b1 b2 b3)
end Go.Proofs.YtfdjiofogohcmaaGreatDoor
namespace Go.Proofs.YtfdjiofogohcmaaGreatDoor
open Go.RowKit Go.Sort

theorem k_ofInt_nat64 (x : Nat) (hx : x < 18446744073709551616) : (BitVec.ofInt 64 (x : Int)).toNat = x := by
  rw [BitVec.toNat_ofInt]
  omega
theorem k_or_nat64 (x y : Nat) (hx : x < 18446744073709551616) (hy : y < 18446744073709551616) : bits .or .u64 (x : Int) (y : Int) = ((x ||| y : Nat) : Int) := by
  have h : (x ||| y) < 2 ^ 64 := Nat.or_lt_two_pow hx hy
  have e : bits .or .u64 (x : Int) (y : Int) = IntKind.u64.wrap (((BitVec.ofInt 64 (x : Int)) ||| (BitVec.ofInt 64 (y : Int))).toNat : Int) := rfl
  rw [e, BitVec.toNat_or, k_ofInt_nat64 x hx, k_ofInt_nat64 y hy, IntKind.wrap_u64]
  omega
theorem rot_zero (x : Int) (h : 0 ≤ x ∧ x < 18446744073709551616) : rot x 0 = x := by
  obtain ⟨n, rfl⟩ := Int.eq_ofNat_of_zero_le h.1
  unfold rot
  have e1 : IntKind.u64.wrap ((n : Int) * 2 ^ 0) = ((n : Nat) : Int) := by rw [IntKind.wrap_u64]; omega
  have e2 : (n : Int) / 2 ^ (64 - 0) = ((0 : Nat) : Int) := by
    show (n : Int) / 18446744073709551616 = 0
    omega
  rw [e1, e2, k_or_nat64 n 0 (by omega) (by decide), Nat.or_zero]

set_option maxRecDepth 20000 in
set_option maxHeartbeats 2000000 in
theorem rleft_any (x : Int) (hx : 0 ≤ x ∧ x < 18446744073709551616) (k : Nat) (hk : k < 64) (w : World) :
    Calls Tryz.prog 63 #[.int .u64 x, .int .i64 k] w fun e w' => e = .returned (.int .u64 (rot x k)) ∧ Below w.heap.size w w' := by
  by_cases h0 : k = 0
  · subst h0
    have HR : Hid (rot x 0 = x) := rot_zero x hx
    go_enter Tryz.func63, Tryz.ntmps63
    go_wp2
    go_ret
    exact ⟨by rw [HR.out]; rfl, Below.refl _ _⟩
  · obtain ⟨m, hm⟩ : ∃ m : Nat, 64 - k = m := ⟨_, rfl⟩
    have hk0 : ¬ (k : Int) = 0 := by omega
    have w2 : IntKind.i64.wrap (64 - (k : Int)) = m := by rw [IntKind.wrap_i64]; omega
    have w3 : IntKind.i64.wrap (m : Int) = m := by rw [IntKind.wrap_i64]; omega
    have w4 : IntKind.i64.wrap (k : Int) = k := by rw [IntKind.wrap_i64]; omega
    have l1 : (k : Int) ≤ 64 := by omega
    have l2 : (m : Int) ≤ 64 := by omega
    have z1 : 0 ≤ (k : Int) := by omega
    have z2 : 0 ≤ (m : Int) := by omega
    have hmm : min m 64 = m := by omega
    have hkk : min k 64 = k := by omega
    have n1 : ¬ (k : Int) < 0 := by omega
    have n2 : ¬ (m : Int) < 0 := by omega
    have HM : Hid (64 - k = m) := hm
    clear hm
    go_enter Tryz.func63, Tryz.ntmps63
    go_wp2
    refine wp_region_quiet_below (by kernel_rfl) (by kernel_rfl) ?_
    iterate 9 (quiet_step (fail))
    refine wpQuiet_nil ?_
    intro w8 hw8
    have hb8 : Below w.heap.size w w8 := by
      obtain ⟨p, rfl⟩ := hw8
      exact below_regrown _ _ _
    go_wp2
    go_ret
    refine ⟨?_, hb8⟩
    rw [rot, HM.out]
    simp [IntKind.wrap_u64]

set_option maxRecDepth 20000 in
set_option maxHeartbeats 2000000 in
theorem rat_any (x y : Nat) (hx : x < 1000) (hy : y < 1000) (w : World) :
    Calls Tryz.prog 62 #[.int .i64 x, .int .i64 y] w fun e w' => e = .returned (.int .i64 ((x % 5 + 5 * (y % 5) : Nat) : Int)) ∧ Below w.heap.size w w' := by
  have a1 : ((x : Int) + 10).tmod 5 = ((x % 5 : Nat) : Int) := by rw [Int.tmod_eq_emod_of_nonneg (by omega)]; omega
  have a2 : ((y : Int) + 10).tmod 5 = ((y % 5 : Nat) : Int) := by rw [Int.tmod_eq_emod_of_nonneg (by omega)]; omega
  obtain ⟨p, hp⟩ : ∃ p, x % 5 = p := ⟨_, rfl⟩
  obtain ⟨q, hq⟩ : ∃ q, y % 5 = q := ⟨_, rfl⟩
  have e1 : ((x : Int) + 10) % 5 = p := by omega
  have e2 : ((y : Int) + 10) % 5 = q := by omega
  rw [hp] at a1
  rw [hq] at a2
  have hp5 : p < 5 := by omega
  have hq5 : q < 5 := by omega
  have HE : Hid (((x % 5 + 5 * (y % 5) : Nat) : Int) = (p : Int) + 5 * (q : Int)) := by show _ = _; rw [hp, hq]; omega
  clear hp hq
  go_enter Tryz.func62, Tryz.ntmps62
  go_wp2
  go_ret
  exact ⟨by rw [HE.out]; rfl, Below.refl _ _⟩
end Go.Proofs.YtfdjiofogohcmaaGreatDoor
namespace Go.Proofs.YtfdjiofogohcmaaGreatDoor
open Go.RowKit Go.Sort

/-- Where the k-th turn stands; what is known behind k of them. -/
def txy : Nat → Nat × Nat
  | 0 => (1, 0)
  | k + 1 => ((txy k).2, (2 * (txy k).1 + 3 * (txy k).2) % 5)
def tpl (k : Nat) : Nat := (txy k).1 % 5 + 5 * ((txy k).2 % 5)
def tva (k : Nat) : Nat := (k + 1) * (k + 2) / 2 % 64
def trn : Nat → Nat → Nat
  | 0 => fun _ => 0
  | k + 1 => fun j => if j = tpl k then tva k else trn k j
theorem trn_is (j : Nat) (h : j < 25) : trn 24 j = tn j := (by decide : ∀ j : Fin 25, trn 24 j.val = tn j.val) ⟨j, h⟩
theorem txy_bd (k : Nat) (h : k < 25) : (txy k).1 < 5 ∧ (txy k).2 < 5 := (by decide : ∀ k : Fin 25, (txy k.val).1 < 5 ∧ (txy k.val).2 < 5) ⟨k, h⟩
theorem size_i25 : (Tryz.prog.info? 61).map (·.size) = some 25 := by kernel_rfl

set_option maxRecDepth 20000 in
set_option maxHeartbeats 2000000 in
theorem rturns_any (w : World) :
    Calls Tryz.prog 37 #[] w fun e w' => e = .returned (.agg (fl 25 fun j => .int .i64 (tn j)).toArray) ∧ Below w.heap.size w w' := by
  go_enter Tryz.func37, Tryz.ntmps37
  go_wp2
  refine wpOf (fun W => Below w.heap.size w W ∧ Fw w.heap.size 25 (fun _ => .int .i64 0) W ∧ Fw (w.heap.size + 1) 25 (fun _ => .int .i64 0) W) ⟨((Below.refl _ w).alloc (Nat.le_refl _) _).alloc (by simp) _, Fw.alloc (Fw.lit _ _ rfl rfl) _, Fw.lit _ _ (by simp) rfl⟩ ?_
  rintro V ⟨BV, ZV, CV⟩
  obtain ⟨z, hz⟩ : ∃ c, w.heap.size = c := ⟨_, rfl⟩
  have HZ : Hid (w.heap.size = z) := hz
  rw [hz] at BV ZV CV ⊢
  clear hz
  obtain ⟨c, hc⟩ : ∃ c, z + 1 = c := ⟨_, rfl⟩
  rw [hc] at CV ⊢
  go_loopg [2, 3, 4] 24 (fun gk a b i wr => ∃ k x y : Nat, k + gk = 24 ∧ a = .int .i64 x ∧ b = .int .i64 y ∧ i = .int .i64 k ∧ Below z w wr ∧ Fw z 25 (fun _ => .int .i64 0) wr ∧ Fw c 25 (fun j => .int .i64 (trn k j)) wr ∧ Hid (txy k = (x, y)))
  case atStart => exact ⟨0, 1, 0, rfl, rfl, rfl, rfl, BV, ZV, CV, (rfl : _ = _)⟩
  case round =>
    clear BV ZV CV
    obtain ⟨k, x, y, hk, rfl, rfl, rfl, BW, CZ, CC, hH⟩ := hrel
    by_cases hlt : k < 24
    · have l0 : (k : Int) < 24 := by omega
      have hxy := txy_bd k (by omega)
      rw [hH.out] at hxy
      have hx5 : x < 5 := hxy.1
      have hy5 : y < 5 := hxy.2
      have KA : Hid (∀ w : World, _) := fun w : World => rat_any x y (by omega) (by omega) w
      obtain ⟨p, hp, hp2⟩ : ∃ p, x % 5 + 5 * (y % 5) = p ∧ p < 25 := ⟨_, rfl, by omega⟩
      rw [hp] at KA
      obtain ⟨v, hv⟩ : ∃ v, tva k = v := ⟨_, rfl⟩
      obtain ⟨q, hq⟩ : ∃ q : Nat, (k + 1) * (k + 2) = q := ⟨_, rfl⟩
      have hq2 : q ≤ 625 := by rw [← hq]; exact Nat.le_trans (Nat.mul_le_mul (show k + 1 ≤ 25 by omega) (show k + 2 ≤ 25 by omega)) (Nat.le_refl _)
      have w1 : IntKind.i64.wrap ((k : Int) + 1) = (k : Int) + 1 := by rw [IntKind.wrap_i64]; omega
      have hqi : ((k : Int) + 1) * ((k : Int) + 2) = q := by rw [← hq]; simp
      have hq3 : (q : Int).tdiv 2 = ((q / 2 : Nat) : Int) := by rw [Int.tdiv_eq_ediv_of_nonneg (by omega)]; omega
      have hq4 : (q : Int) / 2 = ((q / 2 : Nat) : Int) := by omega
      obtain ⟨r, hr⟩ : ∃ r, q / 2 = r := ⟨_, rfl⟩
      rw [hr] at hq3 hq4
      have hvr : r % 64 = v := by rw [← hr, ← hq, ← hv, tva]
      have hr3 : (r : Int).tmod 64 = v := by rw [Int.tmod_eq_emod_of_nonneg (by omega)]; omega
      have hr4 : (r : Int) % 64 = v := by omega
      obtain ⟨y2, hy2⟩ : ∃ y2, (2 * x + 3 * y) % 5 = y2 := ⟨_, rfl⟩
      have hy3 : (2 * (x : Int) + 3 * (y : Int)) % 5 = y2 := by omega
      have hy4 : (2 * (x : Int) + 3 * (y : Int)).tmod 5 = y2 := by rw [Int.tmod_eq_emod_of_nonneg (by omega)]; exact hy3
      have lp : (p : Int) < 25 := by omega
      have HV : Hid (tpl k = p ∧ tva k = v ∧ txy (k + 1) = (y, y2)) := by
        refine ⟨by rw [tpl, hH.out]; exact hp, hv, ?_⟩
        show ((txy k).2, (2 * (txy k).1 + 3 * (txy k).2) % 5) = _
        rw [hH.out, ← hy2]
      clear hp hv hq hr hy2 hvr hxy
      go_wp2_with fail
      refine (KA.out _).mono ?_
      rintro e w2 ⟨rfl, B2⟩
      have Z2 := CZ.below B2
      have C2 := CC.below B2
      have G2 := belowStep BW (by rw [← HZ.out] at BW ⊢; exact BW.size) B2
      clear KA B2 CZ CC BW
      have n0 := C2.c p hp2
      have sf := C2.f
      have sz := C2.z
      go_wp2
      go_roundg (gk - 1)
      case measure => omega
      case rel =>
        obtain ⟨g1, g2, g3⟩ := HV.out
        refine ⟨k + 1, y, y2, by omega, rfl, rfl, rfl, G2.setCell (p := ⟨c, p, none⟩) (by dsimp only; omega) _, Z2.setCell _ (by dsimp only; omega) _, C2.put p hp2 _ (fun j _ => ?_), g3⟩
        show Value.int .i64 ((if j = tpl k then tva k else trn k j : Nat) : Int) = _
        rw [g1, g2]
        by_cases e : j = p
        · rw [if_pos e, if_pos e]
        · rw [if_neg e, if_neg e]
    · have hk2 : k = 24 := by omega
      subst hk2
      clear hlt
      have e : Hid ((fl 25 fun j => .int .i64 (trn 24 j)) = (fl 25 fun j => .int .i64 (tn j))) := fl_ext _ _ _ fun j hj => by show Value.int .i64 _ = .int .i64 _; rw [trn_is j hj]
      have hst := CZ.run (P := Tryz.prog) (fun j => .int .i64 (trn 24 j)) (fun _ => rfl)
      obtain ⟨l, hl⟩ : ∃ l, (fl 25 fun j => .int .i64 (trn 24 j)) = l := ⟨_, rfl⟩
      have hr := CC.range
      have hr2 := (CZ.store (fun j => .int .i64 (trn 24 j))).range
      have hlen : l.length = 25 := by rw [← hl]; exact fl_len _ _
      rw [hl] at e hst hr hr2
      clear hl
      go_wp2_with (refine wpList_load_mid rfl 61 _ rfl c 0 rfl l _ hr Tryz.underlying61 rfl (by rw [hlen]; exact size_i25) ?_)
      refine bodyPost_ret (v := .agg l.toArray) (results_mid Tryz.results37 _ _ z l _ rfl hr2 Tryz.underlying61 rfl (by rw [hlen]; exact size_i25)) rfl ⟨by rw [e.out], ?_⟩
      rw [HZ.out]
      exact below_setCells' (Nat.le_refl _) _ _ _ BW
end Go.Proofs.YtfdjiofogohcmaaGreatDoor
namespace Go.Proofs.YtfdjiofogohcmaaGreatDoor
open Go.RowKit Go.Sort

/-- The row's number behind n steps. -/
def crow (n : Nat) : Int := [1, 2, 4, 8, 16, 32, 64, 128, 113, 226, 181, 27, 54, 108, 216, 193, 243, 151, 95, 190, 13, 26, 52, 104, 208, 209, 211, 215, 223, 207, 239, 175, 47, 94, 188, 9, 18, 36, 72, 144, 81, 162, 53, 106, 212, 217, 195, 247, 159, 79, 158, 77, 154, 69, 138, 101, 202, 229, 187, 7, 14, 28, 56, 112, 224, 177, 19, 38, 76, 152, 65, 130, 117, 234, 165, 59, 118, 236, 169, 35, 70, 140, 105, 210, 213, 219, 199, 255, 143, 111, 222, 205, 235, 167, 63, 126, 252, 137, 99, 198, 253, 139, 103, 206, 237, 171, 39, 78, 156, 73, 146, 85, 170, 37, 74, 148, 89, 178, 21, 42, 84, 168, 33, 66, 132, 121, 242, 149, 91, 182, 29, 58, 116, 232, 161, 51, 102, 204, 233, 163, 55, 110, 220, 201, 227, 183, 31, 62, 124, 248, 129, 115, 230, 189, 11, 22, 44, 88, 176, 17, 34, 68, 136, 97, 194, 245, 155, 71, 142].getD n 0
theorem crow_step (n : Nat) (h : n < 168) : crow (n + 1) = if 256 ≤ 2 * crow n then bits .xor .i64 (2 * crow n) 369 else 2 * crow n :=
  (by decide +kernel : ∀ n : Fin 168, crow (n.val + 1) = if 256 ≤ 2 * crow n.val then bits .xor .i64 (2 * crow n.val) 369 else 2 * crow n.val) ⟨n, h⟩
theorem crow_bd (n : Nat) (h : n < 169) : 0 ≤ crow n ∧ crow n < 256 := (by decide +kernel : ∀ n : Fin 169, 0 ≤ crow n.val ∧ crow n.val < 256) ⟨n, h⟩
/-- What is joined behind j steps of round i. -/
def co (i : Nat) : Nat → Int
  | 0 => 0
  | j + 1 => if crow (7 * i + j) % 2 = 1 then bits .or .u64 (co i j) ([1, 2, 8, 128, 32768, 2147483648, 9223372036854775808].getD j 0) else co i j
theorem co_is (i : Nat) (h : i < 24) : co i 7 = cn i := (by decide +kernel : ∀ i : Fin 24, co i.val 7 = cn i.val) ⟨i, h⟩

set_option maxRecDepth 20000 in
set_option maxHeartbeats 4000000 in
theorem rconst_any (i : Nat) (hi : i < 24) (w : World) :
    Calls Tryz.prog 64 #[.int .i64 i] w fun e w' => e = .returned (.int .u64 (cn i)) ∧ Below w.heap.size w w' := by
  obtain ⟨p, hp⟩ : ∃ p, 7 * i = p := ⟨_, rfl⟩
  obtain ⟨m, hm⟩ : ∃ m, p + 7 = m := ⟨_, rfl⟩
  have w1 : IntKind.i64.wrap (7 * (i : Int)) = p := by rw [IntKind.wrap_i64]; omega
  have w2 : IntKind.i64.wrap ((p : Int) + 7) = m := by rw [IntKind.wrap_i64]; omega
  have hp2 : p ≤ 161 := by omega
  have HP : Hid (7 * i = p ∧ co i 7 = cn i) := ⟨hp, co_is i hi⟩
  clear hp
  go_enter Tryz.func64, Tryz.ntmps64
  go_wp2
  go_loopg [3, 4, 5] m (fun gk a b c wr => ∃ n : Nat, ∃ r o : Int, n + gk = m ∧ a = .int .i64 r ∧ b = .int .u64 o ∧ c = .int .i64 n ∧ Below w.heap.size w wr ∧ Hid (r = crow n ∧ o = co i (n - p)))
  case atStart => exact ⟨0, 1, 0, by omega, rfl, rfl, rfl, Below.refl _ _, ⟨rfl, by rw [Nat.zero_sub]; rfl⟩⟩
  case round =>
    obtain ⟨n, r, o, hn, rfl, rfl, rfl, BW, hH⟩ := hrel
    by_cases hlt : n < m
    · have l0 : (n : Int) < m := by omega
      have hr := crow_bd n (by omega)
      rw [← hH.out.1] at hr
      have hst := crow_step n (by omega)
      rw [← hH.out.1] at hst
      obtain ⟨r2, hr2⟩ : ∃ q, 2 * r = q := ⟨_, rfl⟩
      have hw2 : IntKind.i64.wrap r2 = r2 := by rw [IntKind.wrap_i64]; omega
      rw [hr2] at hst
      have wd : IntKind.i64.wrap ((n : Int) - p) = (n : Int) - p := by rw [IntKind.wrap_i64]; omega
      have hrm : r.tmod 2 = r % 2 := Int.tmod_eq_emod_of_nonneg hr.1
      obtain ⟨r3, hr3⟩ : ∃ q, bits .xor .i64 r2 369 = q := ⟨_, rfl⟩
      rw [hr3] at hst
      have HS : Hid (_ = _) := hst
      clear hst
      by_cases hneg : n < p
      · have ln : ¬ (0 : Int) ≤ (n : Int) - p := by omega
        have hco : co i (n + 1 - p) = o := by rw [hH.out.2, show n + 1 - p = 0 by omega, show n - p = 0 by omega]
        have HO : Hid (_ = _) := hco
        clear hco
        by_cases hbig : 256 ≤ r2
        · go_wp2
          go_roundg (gk - 1)
          case measure => omega
          case rel => exact ⟨n + 1, _, _, by omega, rfl, rfl, rfl, BW, ⟨by rw [HS.out, if_pos (by omega)], HO.out.symm⟩⟩
        · go_wp2
          go_roundg (gk - 1)
          case measure => omega
          case rel => exact ⟨n + 1, _, _, by omega, rfl, rfl, rfl, BW, ⟨by rw [HS.out, if_neg (by omega)], HO.out.symm⟩⟩
      · obtain ⟨j, hj⟩ : ∃ j, n - p = j := ⟨_, rfl⟩
        have hnj : (n : Int) - p = (j : Int) := by omega
        rw [hnj] at wd
        have lj : (0 : Int) ≤ (j : Int) := by omega
        obtain ⟨o2, ho2⟩ : ∃ q, bits .or .u64 o ([1, 2, 8, 128, 32768, 2147483648, 9223372036854775808].getD j 0) = q := ⟨_, rfl⟩
        have hco : co i (n + 1 - p) = if r % 2 = 1 then o2 else o := by
          rw [show n + 1 - p = j + 1 by omega, co, HP.out.1, show p + j = n by omega, ← hH.out.1]
          have e := hH.out.2
          rw [hj] at e
          rw [← e, ho2]
        have HO : Hid (_ = _) := hco
        clear hco
        have hj6 : j = 0 ∨ j = 1 ∨ j = 2 ∨ j = 3 ∨ j = 4 ∨ j = 5 ∨ j = 6 := by omega
        have HJ : Hid (n - p = j) := hj
        clear hj
        by_cases hodd : r % 2 = 1
        · have HQ : Hid (co i (n + 1 - p) = o2) := by show _ = _; rw [HO.out, if_pos hodd]
          rcases hj6 with rfl | rfl | rfl | rfl | rfl | rfl | rfl
          · simp only [List.getD_cons_zero] at ho2
            by_cases hbig : 256 ≤ r2
            · go_wp2
              go_roundg (gk - 1)
              case measure => omega
              case rel => exact ⟨n + 1, _, _, by omega, rfl, rfl, rfl, BW, ⟨by rw [HS.out, if_pos (by omega)], HQ.out.symm⟩⟩
            · go_wp2
              go_roundg (gk - 1)
              case measure => omega
              case rel => exact ⟨n + 1, _, _, by omega, rfl, rfl, rfl, BW, ⟨by rw [HS.out, if_neg (by omega)], HQ.out.symm⟩⟩
          · simp only [List.getD_cons_zero, List.getD_cons_succ] at ho2
            by_cases hbig : 256 ≤ r2
            · go_wp2
              go_roundg (gk - 1)
              case measure => omega
              case rel => exact ⟨n + 1, _, _, by omega, rfl, rfl, rfl, BW, ⟨by rw [HS.out, if_pos (by omega)], HQ.out.symm⟩⟩
            · go_wp2
              go_roundg (gk - 1)
              case measure => omega
              case rel => exact ⟨n + 1, _, _, by omega, rfl, rfl, rfl, BW, ⟨by rw [HS.out, if_neg (by omega)], HQ.out.symm⟩⟩
          · simp only [List.getD_cons_zero, List.getD_cons_succ] at ho2
            by_cases hbig : 256 ≤ r2
            · go_wp2
              go_roundg (gk - 1)
              case measure => omega
              case rel => exact ⟨n + 1, _, _, by omega, rfl, rfl, rfl, BW, ⟨by rw [HS.out, if_pos (by omega)], HQ.out.symm⟩⟩
            · go_wp2
              go_roundg (gk - 1)
              case measure => omega
              case rel => exact ⟨n + 1, _, _, by omega, rfl, rfl, rfl, BW, ⟨by rw [HS.out, if_neg (by omega)], HQ.out.symm⟩⟩
          · simp only [List.getD_cons_zero, List.getD_cons_succ] at ho2
            by_cases hbig : 256 ≤ r2
            · go_wp2
              go_roundg (gk - 1)
              case measure => omega
              case rel => exact ⟨n + 1, _, _, by omega, rfl, rfl, rfl, BW, ⟨by rw [HS.out, if_pos (by omega)], HQ.out.symm⟩⟩
            · go_wp2
              go_roundg (gk - 1)
              case measure => omega
              case rel => exact ⟨n + 1, _, _, by omega, rfl, rfl, rfl, BW, ⟨by rw [HS.out, if_neg (by omega)], HQ.out.symm⟩⟩
          · simp only [List.getD_cons_zero, List.getD_cons_succ] at ho2
            by_cases hbig : 256 ≤ r2
            · go_wp2
              go_roundg (gk - 1)
              case measure => omega
              case rel => exact ⟨n + 1, _, _, by omega, rfl, rfl, rfl, BW, ⟨by rw [HS.out, if_pos (by omega)], HQ.out.symm⟩⟩
            · go_wp2
              go_roundg (gk - 1)
              case measure => omega
              case rel => exact ⟨n + 1, _, _, by omega, rfl, rfl, rfl, BW, ⟨by rw [HS.out, if_neg (by omega)], HQ.out.symm⟩⟩
          · simp only [List.getD_cons_zero, List.getD_cons_succ] at ho2
            by_cases hbig : 256 ≤ r2
            · go_wp2
              go_roundg (gk - 1)
              case measure => omega
              case rel => exact ⟨n + 1, _, _, by omega, rfl, rfl, rfl, BW, ⟨by rw [HS.out, if_pos (by omega)], HQ.out.symm⟩⟩
            · go_wp2
              go_roundg (gk - 1)
              case measure => omega
              case rel => exact ⟨n + 1, _, _, by omega, rfl, rfl, rfl, BW, ⟨by rw [HS.out, if_neg (by omega)], HQ.out.symm⟩⟩
          · simp only [List.getD_cons_zero, List.getD_cons_succ] at ho2
            by_cases hbig : 256 ≤ r2
            · go_wp2
              go_roundg (gk - 1)
              case measure => omega
              case rel => exact ⟨n + 1, _, _, by omega, rfl, rfl, rfl, BW, ⟨by rw [HS.out, if_pos (by omega)], HQ.out.symm⟩⟩
            · go_wp2
              go_roundg (gk - 1)
              case measure => omega
              case rel => exact ⟨n + 1, _, _, by omega, rfl, rfl, rfl, BW, ⟨by rw [HS.out, if_neg (by omega)], HQ.out.symm⟩⟩
        · have HQ : Hid (co i (n + 1 - p) = o) := by show _ = _; rw [HO.out, if_neg hodd]
          clear hj6
          by_cases hbig : 256 ≤ r2
          · go_wp2
            go_roundg (gk - 1)
            case measure => omega
            case rel => exact ⟨n + 1, _, _, by omega, rfl, rfl, rfl, BW, ⟨by rw [HS.out, if_pos (by omega)], HQ.out.symm⟩⟩
          · go_wp2
            go_roundg (gk - 1)
            case measure => omega
            case rel => exact ⟨n + 1, _, _, by omega, rfl, rfl, rfl, BW, ⟨by rw [HS.out, if_neg (by omega)], HQ.out.symm⟩⟩
    · have hn2 : n = m := by omega
      subst hn2
      clear hlt
      have ho := hH.out.2
      rw [show n - p = 7 by omega, HP.out.2] at ho
      have HO : Hid (_ = _) := ho
      clear ho
      go_wp2
      go_ret
      exact ⟨by rw [← HO.out]; rfl, BW⟩
end Go.Proofs.YtfdjiofogohcmaaGreatDoor
namespace Go.Proofs.YtfdjiofogohcmaaGreatDoor
open Go.RowKit Go.Sort

/-- A lane that fits. -/
abbrev La (x : Int) : Prop := 0 ≤ x ∧ x < 18446744073709551616
theorem xr_la (x y : Int) : La (xr x y) := by
  have e : xr x y = IntKind.u64.wrap (((BitVec.ofInt 64 x) ^^^ (BitVec.ofInt 64 y)).toNat : Int) := rfl
  rw [e, IntKind.wrap_u64]
  omega
theorem ofInt_wrap (b : BitVec 64) : BitVec.ofInt 64 (IntKind.u64.wrap (b.toNat : Int)) = b := by
  have h : b.toNat < 18446744073709551616 := b.isLt
  apply BitVec.eq_of_toNat_eq
  rw [BitVec.toNat_ofInt, IntKind.wrap_u64]
  omega
theorem xr_assoc (x y z : Int) : xr (xr x y) z = xr x (xr y z) := by
  have e : ∀ a b : Int, xr a b = IntKind.u64.wrap (((BitVec.ofInt 64 a) ^^^ (BitVec.ofInt 64 b)).toNat : Int) := fun _ _ => rfl
  rw [e, e x y, e x, e y z, ofInt_wrap, ofInt_wrap, BitVec.xor_assoc]
theorem xr_zero (x : Int) (h : La x) : xr 0 x = x := by
  have e : xr 0 x = IntKind.u64.wrap (((BitVec.ofInt 64 0) ^^^ (BitVec.ofInt 64 x)).toNat : Int) := rfl
  obtain ⟨n, rfl⟩ := Int.eq_ofNat_of_zero_le h.1
  have hn : n < 18446744073709551616 := by have := h.2; omega
  rw [e, BitVec.toNat_xor, k_ofInt_nat64 n hn]
  have : (BitVec.ofInt 64 0).toNat = 0 := by decide
  rw [this, Nat.zero_xor, IntKind.wrap_u64]
  omega
/-- A column's lanes, joined one by one. -/
def cpart (f : Nat → Int) (x : Nat) : Nat → Int
  | 0 => 0
  | y + 1 => xr (cpart f x y) (f (x + 5 * y))
theorem cpart_is (f : Nat → Int) (x : Nat) (h : La (f x)) : cpart f x 5 = colOf f x := by
  show xr (xr (xr (xr (xr 0 (f (x + 5 * 0))) (f (x + 5 * 1))) (f (x + 5 * 2))) (f (x + 5 * 3))) (f (x + 5 * 4)) = _
  rw [show x + 5 * 0 = x by omega, xr_zero _ h]
  rfl
end Go.Proofs.YtfdjiofogohcmaaGreatDoor
